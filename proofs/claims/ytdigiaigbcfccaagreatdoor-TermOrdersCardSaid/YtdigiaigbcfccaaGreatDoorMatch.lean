import Derived.StillTailTactics
import Derived.Test.YtdigiaigbcfccaaGreatDoorSubst
import Derived.Test.YtdigiaigbcfccaaGreatDoorSame
namespace Go.Proofs.YtdigiaigbcfccaaGreatDoor
open Go.RowKit Go

attribute [local go_sem] monoUpon Yld.says

mutual
def Tr.beq : Tr → Tr → Bool
  | .node k n s l, .node k' n' s' l' => topB k n s l.length k' n' s' l'.length && beqL l l'
def beqL : List Tr → List Tr → Bool
  | [], [] => true
  | a :: u, b :: v => Tr.beq a b && beqL u v
  | _, _ => false
end
mutual
theorem beq_iff : ∀ (a b : Tr), Tr.beq a b = true ↔ a = b
  | .node k n s l, .node k' n' s' l' => by
    simp only [Tr.beq, topB, Bool.and_eq_true, decide_eq_true_eq, Tr.node.injEq]
    constructor
    · rintro ⟨⟨h1, h2, h3, _⟩, h⟩; exact ⟨h1, h2, h3, (beqL_iff l l').1 h⟩
    · rintro ⟨h1, h2, h3, h⟩; exact ⟨⟨h1, h2, h3, by rw [h]⟩, (beqL_iff l l').2 h⟩
theorem beqL_iff : ∀ (u v : List Tr), beqL u v = true ↔ u = v
  | [], [] => by simp [beqL]
  | [], _ :: _ => by simp [beqL]
  | _ :: _, [] => by simp [beqL]
  | a :: u, b :: v => by simp [beqL, beq_iff a b, beqL_iff u v]
end
theorem eqT_beq (a b : Tr) : eqT a b = Tr.beq a b := by
  rw [Bool.eq_iff_iff, beq_iff]; simp [eqT]

mutual
/-- What is put in the place of the variables of p so that it becomes t, beside what is known. -/
def matchT : Tr → Tr → List Tr → Option (List Tr)
  | .node k n s l, t, fs =>
    if k = 1 then (if (fs.getD n.toNat default).kind = 0 then some (fs.set n.toNat t) else if Tr.beq (fs.getD n.toNat default) t then some fs else none)
    else if topT (.node k n s l) t then matchL l t.subs fs else none
def matchL : List Tr → List Tr → List Tr → Option (List Tr)
  | [], _, fs => some fs
  | _ :: _, [], _ => none
  | a :: u, b :: v, fs => match matchT a b fs with
    | some fs' => matchL u v fs'
    | none => none
end
theorem matchL_take : ∀ (l l' : List Tr) (fs fs' : List Tr) (j : Nat) (h : j < l.length) (h' : j < l'.length), matchL (l.take j) (l'.take j) fs = some fs' → matchL (l.take (j + 1)) (l'.take (j + 1)) fs = matchT l[j] l'[j] fs'
  | a :: u, b :: v, fs, fs', 0, _, _, hm => by
    simp only [List.take_zero, matchL, Option.some.injEq] at hm
    subst hm
    simp only [List.take_succ_cons, List.take_zero, matchL, List.getElem_cons_zero]
    cases matchT a b fs <;> rfl
  | a :: u, b :: v, fs, fs', j + 1, h, h', hm => by
    simp only [List.take_succ_cons, matchL, List.getElem_cons_succ] at hm ⊢
    cases hab : matchT a b fs with
    | none => rw [hab] at hm; cases hm
    | some g =>
      rw [hab] at hm
      exact matchL_take u v g fs' j (by simpa using h) (by simpa using h') hm
theorem matchL_none : ∀ (l l' : List Tr) (fs : List Tr) (j : Nat), j ≤ l.length → l.length = l'.length → matchL (l.take j) (l'.take j) fs = none → matchL l l' fs = none
  | _, _, _, 0, _, _, hm => by simp [matchL] at hm
  | [], [], fs, j + 1, _, _, hm => by simp [matchL] at hm
  | a :: u, b :: v, fs, j + 1, h, h', hm => by
    simp only [List.take_succ_cons, matchL] at hm ⊢
    cases hab : matchT a b fs with
    | none => rfl
    | some g =>
      rw [hab] at hm
      exact matchL_none u v g j (by simpa using h) (by simpa using h') hm

mutual
/-- All variables have numbers from 0 to below N. -/
def varsIn (N : Nat) : Tr → Prop
  | .node k n _ l => (k = 1 → 0 ≤ n ∧ n < N) ∧ varsInL N l
def varsInL (N : Nat) : List Tr → Prop
  | [] => True
  | t :: ts => varsIn N t ∧ varsInL N ts
end
theorem varsInL_mem {N : Nat} {t : Tr} : ∀ {l : List Tr}, varsInL N l → t ∈ l → varsIn N t
  | x :: xs, h, ht => by
    rcases List.mem_cons.1 ht with rfl | ht
    · exact h.1
    · exact varsInL_mem h.2 ht

/-- A row of trees that lie elsewhere, below n₀. -/
def Fnd (n₀ : Nat) (W : World) (cs : Array Value) (fs : List Tr) : Prop := cs.size = fs.length * 4 ∧ ∀ i (hi : i < fs.length), ∃ (k n : Int) (s : ByteArray) (l : List Tr) (a : Option Addr) (c : Nat), fs[i] = .node k n s l ∧
  cs[i * 4]? = some (.int .i64 k) ∧ cs[i * 4 + 1]? = some (.int .i64 n) ∧ cs[i * 4 + 2]? = some (.string s) ∧ cs[i * 4 + 3]? = some (.slice a l.length c) ∧ IsT n₀ W fs[i] (.agg #[.int .i64 k, .int .i64 n, .string s, .slice a l.length c])
theorem Fnd.keep {n₀ : Nat} {A B : World} {cs : Array Value} {fs : List Tr} (h : Fnd n₀ A cs fs) (hb : Below n₀ A B) : Fnd n₀ B cs fs := ⟨h.1, fun i hi => by
  obtain ⟨k, n, s, l, a, c, e, c0, c1, c2, c3, ht⟩ := h.2 i hi
  exact ⟨k, n, s, l, a, c, e, c0, c1, c2, c3, ht.below hb⟩⟩
theorem Fnd.set {n₀ : Nat} {W : World} {cs : Array Value} {fs : List Tr} {j : Nat} {k n : Int} {s : ByteArray} {l : List Tr} {a : Option Addr} {c : Nat} (h : Fnd n₀ W cs fs) (hj : j < fs.length) (ht : IsT n₀ W (.node k n s l) (.agg #[.int .i64 k, .int .i64 n, .string s, .slice a l.length c])) :
    Fnd n₀ W ((((cs.setIfInBounds (j * 4) (.int .i64 k)).setIfInBounds (j * 4 + 1) (.int .i64 n)).setIfInBounds (j * 4 + 2) (.string s)).setIfInBounds (j * 4 + 3) (.slice a l.length c)) (fs.set j (.node k n s l)) := by
  have hsz := h.1
  refine ⟨by simp [hsz], fun i hi => ?_⟩
  simp only [List.length_set] at hi
  by_cases e : i = j
  · subst e
    refine ⟨k, n, s, l, a, c, by simp, ?_, ?_, ?_, ?_, by simpa using ht⟩
    · rw [Array.getElem?_setIfInBounds_ne (by omega), Array.getElem?_setIfInBounds_ne (by omega), Array.getElem?_setIfInBounds_ne (by omega), Array.getElem?_setIfInBounds_self_of_lt (by omega)]
    · rw [Array.getElem?_setIfInBounds_ne (by omega), Array.getElem?_setIfInBounds_ne (by omega), Array.getElem?_setIfInBounds_self_of_lt (by simp; omega)]
    · rw [Array.getElem?_setIfInBounds_ne (by omega), Array.getElem?_setIfInBounds_self_of_lt (by simp; omega)]
    · rw [Array.getElem?_setIfInBounds_self_of_lt (by simp; omega)]
  · obtain ⟨k', n', s', l', a', c', e', c0, c1, c2, c3, ht'⟩ := h.2 i hi
    have eg : (fs.set j (.node k n s l))[i]'(by simpa using hi) = fs[i] := by rw [List.getElem_set_ne (Ne.symm e)]
    refine ⟨k', n', s', l', a', c', by rw [eg]; exact e', ?_, ?_, ?_, ?_, by rw [eg]; exact ht'⟩
    · rw [Array.getElem?_setIfInBounds_ne (by omega), Array.getElem?_setIfInBounds_ne (by omega), Array.getElem?_setIfInBounds_ne (by omega), Array.getElem?_setIfInBounds_ne (by omega), c0]
    · rw [Array.getElem?_setIfInBounds_ne (by omega), Array.getElem?_setIfInBounds_ne (by omega), Array.getElem?_setIfInBounds_ne (by omega), Array.getElem?_setIfInBounds_ne (by omega), c1]
    · rw [Array.getElem?_setIfInBounds_ne (by omega), Array.getElem?_setIfInBounds_ne (by omega), Array.getElem?_setIfInBounds_ne (by omega), Array.getElem?_setIfInBounds_ne (by omega), c2]
    · rw [Array.getElem?_setIfInBounds_ne (by omega), Array.getElem?_setIfInBounds_ne (by omega), Array.getElem?_setIfInBounds_ne (by omega), Array.getElem?_setIfInBounds_ne (by omega), c3]

/-- What match leaves: the row holds what was found; all else lies as it lay. -/
def MatchPost (n₀ B : Nat) (p t : Tr) (fs : List Tr) (w : World) (e : Ending) (w' : World) : Prop := w.grownBy w' (some B) ∧ ∃ (cs' : Array Value) (fs' : List Tr), Box w' B cs' 24 ∧ Fnd n₀ w' cs' fs' ∧ fs'.length = fs.length ∧
  ((e = .returned (.bool true) ∧ matchT p t fs = some fs') ∨ (e = .returned (.bool false) ∧ matchT p t fs = none))
theorem grown_below {n₀ B : Nat} {w w' : World} (h : w.grownBy w' (some B)) (hn : n₀ ≤ w.heap.size) (hB : n₀ ≤ B) : Below n₀ w w' := ⟨h.os, h.tape, h.output, h.size, fun k hk => h.block k (by omega) (fun e => by cases e; omega)⟩
theorem grown_of_below {B : Nat} {w w' : World} (h : Below w.heap.size w w') : w.grownBy w' (some B) := ⟨h.os, h.tape, h.output, h.size, fun k hk _ => h.block k hk⟩
theorem grown_trans {B : Nat} {a b c : World} (h : a.grownBy b (some B)) (k : b.grownBy c (some B)) : a.grownBy c (some B) :=
  ⟨k.os.trans h.os, k.tape.trans h.tape, k.output.trans h.output, Nat.le_trans h.size k.size, fun i hi hn => (k.block i (Nat.lt_of_lt_of_le hi h.size) hn).trans (h.block i hi hn)⟩
theorem grown_set (B i : Nat) (w : World) (v : Value) : w.grownBy (w.setCell ⟨B, i, none⟩ v) (some B) :=
  ⟨rfl, rfl, rfl, by simp, fun k _ hk => Below.heap_setCell _ _ _ _ (fun e => hk (by rw [e]))⟩
theorem Box.grown {W W' : World} {B B' : Nat} {cs : Array Value} {t : TypeId} (h : Box W B' cs t) (hg : W.grownBy W' (some B)) (hne : B' ≠ B) : Box W' B' cs t := (hg.block B' h.lt (fun e => hne (by cases e; rfl))).trans h

set_option maxRecDepth 100000 in
set_option maxHeartbeats 2000000 in
theorem match_any (n₀ B : Nat) (p : Tr) : ∀ (t : Tr) (fs : List Tr) (cs : Array Value) (vp vt : Value) (w : World), IsT n₀ w p vp → IsT n₀ w t vt → n₀ ≤ w.heap.size → n₀ ≤ B → Box w B cs 24 → Fnd n₀ w cs fs → fs.length ≤ 1000000 → varsIn fs.length p →
    Calls Tryz.prog 53 #[vp, vt, .slice (some ⟨B, 0, none⟩) fs.length fs.length] w (MatchPost n₀ B p t fs w) := by
  induction p using Tr.ind with
  | h k n s l ih =>
    intro t fs cs vp vt w hp ht hn hnB hbox hf hfl hv
    cases t with
    | node k' n' s' l' =>
    have HP := Lib.hid hp
    have HT := Lib.hid ht
    obtain ⟨a, c, rfl, _, _, _, hlc, hcm, hl⟩ := hp.open
    obtain ⟨a', c', rfl, _, _, _, hlc', hcm', hl'⟩ := ht.open
    unfold varsIn at hv
    have HI := Lib.hid ih
    have HF := Lib.hid hf
    clear ih hp ht hf
    have hBl := hbox.lt
    have hBl2 : B < w.heap.size + 1 + 1 := by omega
    by_cases hk : k = 1
    · subst hk
      obtain ⟨hv0, hv1⟩ := hv.1 rfl
      obtain ⟨j, rfl⟩ := Int.eq_ofNat_of_zero_le hv0
      have hj : j < fs.length := by omega
      obtain ⟨fk, fn, fss, fl, fa, fc, fe, c0, c1, c2, c3, hft⟩ := HF.out.2 j hj
      have x0 := (hbox.cell (j * 4)).trans c0
      have x1 := (hbox.cell (j * 4 + 1)).trans c1
      have x2 := (hbox.cell (j * 4 + 2)).trans c2
      have x3 := (hbox.cell (j * 4 + 3)).trans c3
      have f0 := hbox.frozen (j * 4)
      have f1 := hbox.frozen (j * 4 + 1)
      have f2 := hbox.frozen (j * 4 + 2)
      have f3 := hbox.frozen (j * 4 + 3)
      have hgd : fs.getD (↑j : Int).toNat default = fs[j] := by simp [List.getElem?_eq_getElem hj]
      clear hv hv0 c0 c1 c2 c3
      by_cases hfk : fk = 0
      · have hM : Hid (matchT (.node 1 j s l) (.node k' n' s' l') fs = some (fs.set j (.node k' n' s' l'))) := by
          unfold Hid
          rw [matchT, if_pos rfl, hgd, if_pos (by rw [fe]; exact hfk)]
          rfl
        rw [hfk] at x0
        have Fe := Lib.hid fe
        have hg : w.grownBy ((((((w.setCell ⟨B, j * 4, none⟩ (.int .i64 k')).setCell ⟨B, j * 4 + 1, none⟩ (.int .i64 n')).setCell ⟨B, j * 4 + 2, none⟩ (.string s')).setCell ⟨B, j * 4 + 3, none⟩ (.slice a' l'.length c')).alloc (.cells #[.int .i64 1, .int .i64 j, .string s, .slice a l.length c] 24)).alloc (.cells #[.int .i64 k', .int .i64 n', .string s', .slice a' l'.length c'] 24)) (some B) :=
          grown_trans (grown_trans (grown_trans (grown_trans (grown_set B (j * 4) w _) (grown_set B (j * 4 + 1) _ _)) (grown_set B (j * 4 + 2) _ _)) (grown_set B (j * 4 + 3) _ _)) (grown_of_below (below_a2 (Nat.le_refl _) _ _))
        have hb6 := (((((hbox.set (j * 4) (.int .i64 k')).set (j * 4 + 1) (.int .i64 n')).set (j * 4 + 2) (.string s')).set (j * 4 + 3) (.slice a' l'.length c')).alloc (.cells #[.int .i64 1, .int .i64 j, .string s, .slice a l.length c] 24)).alloc (.cells #[.int .i64 k', .int .i64 n', .string s', .slice a' l'.length c'] 24)
        have hF6 := HF.out
        clear hfk hgd fe
        go_enter Tryz.func53, Tryz.ntmps53
        go_wp2_with fail
        apply wp_region_mono [.det _, .det _, .det _, .det _, .det _, .det _, .det _, .det _] (by kernel_rfl) (by kernel_rfl)
        rotate_left
        · iterate 6 (
            refine wpM_step (fun K hK => ?_)
            go_simp
            apply And.intro
            · intro w' hC _
              have q1 := hC.old.1
              have hbs := hC.old.2.2
              clear hC
              go_simp
              exact ⟨Ext.refl _, rfl⟩
            refine nextM_det (hK _ _ ?_)
            clear hK K)
          refine wpM_step (fun K hK => ?_)
          go_simp
          apply And.intro
          · intro w' hC _
            go_simp
            have hg' := grown_trans hg (grown_of_below (B := B) hC)
            refine ⟨Ext.refl _, (same_any (.node k' n' s' l') (.node k' n' s' l') _ _ w' (HT.out.up (grown_below hg' hn hnB) (Nat.le_trans hn hg'.size)) (HT.out.up (grown_below hg' hn hnB) (Nat.le_trans hn hg'.size))).mono ?_⟩
            rintro e w1 ⟨rfl, hB1⟩
            exact ⟨congrArg (fun b => Ending.returned (Value.bool b)) (show eqT (Tr.node k' n' s' l') (.node k' n' s' l') = true by simp [eqT]), hB1⟩
          refine nextM_det (hK _ _ ?_)
          clear hK K
          iterate 1 (
            refine wpM_step (fun K hK => ?_)
            go_simp
            apply And.intro
            · intro w' hC _
              have q1 := hC.old.1
              have hbs := hC.old.2.2
              clear hC
              go_simp
              exact ⟨Ext.refl _, rfl⟩
            refine nextM_det (hK _ _ ?_)
            clear hK K)
          refine wpM_nil ?_
          intro w1 hC1 _
          have hg1 := grown_trans hg (grown_of_below (B := B) hC1)
          have hbx := Box.keep hC1 hb6
          have hfnd := (Fnd.set hF6 hj (HT.out)).keep (grown_below hg1 hn hnB)
          have Hfnd := Lib.hid hfnd
          clear hC1 hfnd hF6
          go_wp2_with fail
          go_ret
          exact ⟨hg1, _, _, hbx, Hfnd.out, by simp, .inl ⟨rfl, hM.out⟩⟩
        · intro y hy
          simp only [List.mem_cons, List.not_mem_nil, or_false] at hy
          rcases hy with rfl | rfl | rfl | rfl | rfl | rfl | rfl | rfl <;> first | trivial
      · have hM : Hid (matchT (.node 1 j s l) (.node k' n' s' l') fs = if Tr.beq fs[j] (.node k' n' s' l') then some fs else none) := by
          unfold Hid
          rw [matchT, if_pos rfl, hgd, if_neg (by rw [fe]; exact hfk)]
        have hfk' : (fk == 0) = false := by simpa using hfk
        have Fe := Lib.hid fe
        clear hfk hgd fe
        go_enter Tryz.func53, Tryz.ntmps53
        go_wp2_with fail
        apply wp_region_mono [.det _, .det _, .det _, .det _, .det _, .det _, .det _, .det _] (by kernel_rfl) (by kernel_rfl)
        rotate_left
        · iterate 6 (
            refine wpM_step (fun K hK => ?_)
            go_simp
            apply And.intro
            · intro w' hC _
              have q1 := hC.old.1
              have hbs := hC.old.2.2
              clear hC
              go_simp
              exact ⟨Ext.refl _, rfl⟩
            refine nextM_det (hK _ _ ?_)
            clear hK K)
          refine wpM_step (fun K hK => ?_)
          go_simp
          apply And.intro
          · intro w' hC _
            go_simp
            have hg' := grown_trans (grown_of_below (B := B) (below_a2 (Nat.le_refl w.heap.size) _ _)) (grown_of_below (B := B) hC)
            refine ⟨Ext.refl _, (same_any fs[j] (.node k' n' s' l') _ _ w' (hft.up (grown_below hg' hn hnB) (Nat.le_trans hn hg'.size)) (HT.out.up (grown_below hg' hn hnB) (Nat.le_trans hn hg'.size))).mono ?_⟩
            rintro e w1 ⟨rfl, hB1⟩
            exact ⟨rfl, hB1⟩
          refine nextM_det (hK _ _ ?_)
          clear hK K
          iterate 1 (
            refine wpM_step (fun K hK => ?_)
            go_simp
            apply And.intro
            · intro w' hC _
              have q1 := hC.old.1
              have hbs := hC.old.2.2
              clear hC
              go_simp
              exact ⟨Ext.refl _, rfl⟩
            refine nextM_det (hK _ _ ?_)
            clear hK K)
          refine wpM_nil ?_
          intro w1 hC1 _
          have hg1 := grown_trans (grown_of_below (B := B) (below_a2 (Nat.le_refl w.heap.size) _ _)) (grown_of_below (B := B) hC1)
          have hbx := Box.keep hC1 ((hbox.alloc _).alloc _)
          have hfnd := HF.out.keep (grown_below hg1 hn hnB)
          have Hfnd := Lib.hid hfnd
          clear hC1 hfnd
          rw [eqT_beq]
          cases hbq : Tr.beq fs[j] (.node k' n' s' l') with
          | true =>
            have hM2 : Hid (matchT (.node 1 j s l) (.node k' n' s' l') fs = some fs) := by rw [Hid, hM.out, hbq]; rfl
            clear hbq
            go_wp2_with fail
            go_ret
            exact ⟨hg1, _, _, hbx, Hfnd.out, rfl, .inl ⟨rfl, hM2.out⟩⟩
          | false =>
            have hM2 : Hid (matchT (.node 1 j s l) (.node k' n' s' l') fs = none) := by rw [Hid, hM.out, hbq]; rfl
            clear hbq
            go_wp2_with fail
            go_ret
            exact ⟨hg1, _, _, hbx, Hfnd.out, rfl, .inr ⟨rfl, hM2.out⟩⟩
        · intro y hy
          simp only [List.mem_cons, List.not_mem_nil, or_false] at hy
          rcases hy with rfl | rfl | rfl | rfl | rfl | rfl | rfl | rfl <;> first | trivial
    · have hk' : (k == 1) = false := by simpa using hk
      cases htop : topB k n s l.length k' n' s' l'.length with
      | false =>
        have hM : Hid (matchT (.node k n s l) (.node k' n' s' l') fs = none) := by
          unfold Hid
          rw [matchT, if_neg hk, if_neg (by simp [topT, htop])]
        have Htop := Lib.hid htop
        clear hk htop
        go_enter Tryz.func53, Tryz.ntmps53
        go_wp2_with fail
        refine (sameTop_any k n s l.length k' n' s' l'.length a a' c c' _).mono ?_
        rintro e w1 ⟨rfl, hB1⟩
        rw [Htop.out]
        have hg1 := grown_trans (grown_of_below (B := B) (below_a2 (Nat.le_refl w.heap.size) _ _)) (grown_of_below (B := B) hB1)
        have hbx := Box.keep hB1 ((hbox.alloc _).alloc _)
        have hfnd := HF.out.keep (grown_below hg1 hn hnB)
        have Hfnd := Lib.hid hfnd
        clear hB1 hfnd
        go_wp2_with fail
        go_ret
        exact ⟨hg1, _, _, hbx, Hfnd.out, rfl, .inr ⟨rfl, hM.out⟩⟩
      | true =>
        have hM : Hid (matchT (.node k n s l) (.node k' n' s' l') fs = matchL l l' fs) := by
          unfold Hid
          rw [matchT, if_neg hk, if_pos (by simp [topT, htop])]
          rfl
        have hlen : l.length = l'.length := by simp [topB] at htop; exact htop.2.2.2
        have Hlen := Lib.hid hlen
        have hle1 : l.length ≤ l'.length := by omega
        have Htop := Lib.hid htop
        clear hk htop hlen
        unfold maxLen at hcm hcm'
        have b1 : Box ((w.alloc (.cells #[.int .i64 k, .int .i64 n, .string s, .slice a l.length c] 24)).alloc (.cells #[.int .i64 k', .int .i64 n', .string s', .slice a' l'.length c'] 24)) w.heap.size #[.int .i64 k, .int .i64 n, .string s, .slice a l.length c] 24 := (Box.at rfl).alloc _
        have b2 : Box ((w.alloc (.cells #[.int .i64 k, .int .i64 n, .string s, .slice a l.length c] 24)).alloc (.cells #[.int .i64 k', .int .i64 n', .string s', .slice a' l'.length c'] 24)) (w.heap.size + 1) #[.int .i64 k', .int .i64 n', .string s', .slice a' l'.length c'] 24 := Box.at (by simp)
        go_enter Tryz.func53, Tryz.ntmps53
        go_wp2_with fail
        refine (sameTop_any k n s l.length k' n' s' l'.length a a' c c' _).mono ?_
        rintro e w1 ⟨rfl, hB1⟩
        rw [Htop.out]
        have hg1 := grown_trans (grown_of_below (B := B) (below_a2 (Nat.le_refl w.heap.size) _ _)) (grown_of_below (B := B) hB1)
        have hbx := Box.keep hB1 ((hbox.alloc _).alloc _)
        have d1 := Box.keep hB1 b1
        have d2 := Box.keep hB1 b2
        have hfnd := HF.out.keep (grown_below hg1 hn hnB)
        have Hfnd := Lib.hid hfnd
        have l1 := d1.lt
        have l2 := d2.lt
        have r3 := d1.cell 3
        have u3 := d2.cell 3
        simp only [List.getElem?_toArray, List.getElem?_cons_succ, List.getElem?_cons_zero] at r3 u3
        clear hB1 hfnd b1 b2
        by_cases h0 : 0 < l.length
        · obtain ⟨b, off, rfl, hb⟩ := hl.addr h0
          obtain ⟨b', off', rfl, hb'⟩ := hl'.addr (by omega)
          go_wp2_with fail
          go_loopw [38] (fun i wr => ∃ (j : Nat) (cs' : Array Value) (fs' : List Tr), j ≤ l.length ∧ i = .int .i64 j ∧ Box wr B cs' 24 ∧ Fnd n₀ wr cs' fs' ∧ fs'.length = fs.length ∧ matchL (l.take j) (l'.take j) fs = some fs' ∧ w.grownBy wr (some B) ∧ w1.grownBy wr (some B)) (fun i _ => l.length - (intOf i).toNat)
          case atStart => exact ⟨0, _, _, Nat.zero_le _, rfl, hbx, Hfnd.out, rfl, by simp [matchL], hg1, ⟨rfl, rfl, rfl, Nat.le_refl _, fun _ _ _ => rfl⟩⟩
          case round =>
            obtain ⟨j, cs', fs', hj, rfl, hbj, hfj, hfl', hml, hgj, hgw⟩ := hrel
            have Hml := Lib.hid hml
            have Hfj := Lib.hid hfj
            have Hfl := Lib.hid hfl'
            have g1 := d1.grown hgw (by omega)
            have g2 := d2.grown hgw (by omega)
            have m1 := g1.lt
            have m2 := g2.lt
            have z3 := g2.cell 3
            simp only [List.getElem?_toArray, List.getElem?_cons_succ, List.getElem?_cons_zero] at z3
            have hBj := grown_below hgj hn hnB
            clear hml hfj hfl'
            by_cases hlt : j < l.length
            · have hlt' : j < l'.length := by omega
              obtain ⟨tk, tn, ts, tl, ta, tc, te, c0, c1, c2, c3, ht⟩ := hl.node' hb hBj j hlt
              obtain ⟨uk, un, us, ul, ua, uc, ue, e0, e1, e2, e3, hu⟩ := hl'.node' hb' hBj j hlt'
              have Te := Lib.hid te
              have Ue := Lib.hid ue
              clear te ue
              have hbw : b < wr.heap.size := by have := hBj.size; omega
              have hbw' : b' < wr.heap.size := by have := hBj.size; omega
              go_wp2_with fail
              refine wp_region_still_tail 7 (by kernel_rfl) (by kernel_rfl) ?_
              have hX : Ext (wr.alloc (.cells #[.int .i64 tk, .int .i64 tn, .string ts, .slice ta tl.length tc] 24)) { (wr.alloc (.cells #[.int .i64 tk, .int .i64 tn, .string ts, .slice ta tl.length tc] 24)) with drawn := (wr.alloc (.cells #[.int .i64 tk, .int .i64 tn, .string ts, .slice ta tl.length tc] 24)).drawn + 1 } := (Below.refl _ _).drew
              generalize ({ (wr.alloc (.cells #[.int .i64 tk, .int .i64 tn, .string ts, .slice ta tl.length tc] 24)) with drawn := (wr.alloc (.cells #[.int .i64 tk, .int .i64 tn, .string ts, .slice ta tl.length tc] 24)).drawn + 1 } : World) = W6 at hX ⊢
              have q1 := hX.old.1
              have hsX := hX.old.2.2
              simp only [World.size_alloc] at q1 hsX
              have v1 : b' < wr.heap.size + 1 := by omega
              have v2 : w.heap.size + 1 < wr.heap.size + 1 := by omega
              have v3 : wr.heap.size < wr.heap.size + 1 := by omega
              simp only [List.take_succ_cons, List.take_zero, List.drop_succ_cons, List.drop_zero]
              iterate 7 still_step
              refine wpStill_nil ?_
              have hB6 : Below n₀ wr W6 := (below_a1 (Nat.le_trans hn hgj.size) _).trans (Below.mono hX (size_a1 (Nat.le_trans hn hgj.size) _))
              have hg6 : wr.grownBy W6 (some B) := grown_trans (grown_of_below (below_a1 (Nat.le_refl _) _)) (grown_of_below hX)
              have hcall := HI.out _ (List.getElem_mem hlt) l'[j] fs' cs' _ _ W6 (ht.below (hBj.trans hB6)) (hu.below (hBj.trans hB6)) (by have := hB6.size; omega) hnB (Box.keep hX (hbj.alloc _)) (Hfj.out.keep hB6) (by rw [Hfl.out]; exact hfl) (by rw [Hfl.out]; exact varsInL_mem hv.2 (List.getElem_mem hlt))
              rw [Hfl.out] at hcall
              clear q1 hX
              go_wp2_with fail
              refine hcall.mono ?_
              clear hcall
              rintro e w3 ⟨hg7, cs2, fs2, hbx2, hfn2, hfl2, hcase⟩
              have Hfn2 := Lib.hid hfn2
              have Hfl2 := Lib.hid hfl2
              have hgt := grown_trans (grown_trans hgj hg6) hg7
              have hgt1 := grown_trans (grown_trans hgw hg6) hg7
              clear hfn2 hfl2 hg7 hg6 hgj hgw c0 c1 c2 c3 e0 e1 e2 e3 z3
              rcases hcase with ⟨rfl, hm2⟩ | ⟨rfl, hm2⟩
              · have Hm2 := Lib.hid hm2
                clear hm2
                go_wp2_with fail
                go_roundw
                case rel => exact ⟨j + 1, cs2, fs2, hlt, by go_num, hbx2, Hfn2.out, by rw [Hfl2.out, Hfl.out], by rw [matchL_take l l' fs fs' j hlt hlt' Hml.out]; exact Hm2.out, hgt, hgt1⟩
                case measure => simp [intOf]; omega
              · have hnone : Hid (matchT (.node k n s l) (.node k' n' s' l') fs = none) := by
                  rw [Hid, hM.out]
                  exact matchL_none l l' fs (j + 1) hlt Hlen.out (by rw [matchL_take l l' fs fs' j hlt hlt' Hml.out]; exact hm2)
                clear hm2
                go_wp2_with fail
                go_ret
                exact ⟨hgt, cs2, fs2, hbx2, Hfn2.out, by rw [Hfl2.out, Hfl.out], .inr ⟨rfl, hnone.out⟩⟩
            · have hsome : Hid (matchT (.node k n s l) (.node k' n' s' l') fs = some fs') := by
                have := Hml.out
                rw [List.take_of_length_le (by omega), List.take_of_length_le (by have := Hlen.out; omega)] at this
                rw [Hid, hM.out]; exact this
              go_wp2_with fail
              go_ret
              exact ⟨hgj, cs', fs', hbj, Hfj.out, Hfl.out, .inl ⟨rfl, hsome.out⟩⟩
        · have e1 : l = [] := List.length_eq_zero_iff.1 (by omega)
          subst e1
          have hsome : Hid (matchT (.node k n s []) (.node k' n' s' l') fs = some fs) := by
            rw [Hid, hM.out]; simp [matchL]
          clear h0
          simp only [List.length_nil] at r3 ⊢
          go_wp2_with fail
          refine wp_loop_rounds 1 ?_
          rw [rounds_succ]
          go_wp2_with fail
          go_ret
          exact ⟨hg1, _, _, hbx, Hfnd.out, rfl, .inl ⟨rfl, hsome.out⟩⟩

end Go.Proofs.YtdigiaigbcfccaaGreatDoor

namespace Go.Proofs.YtdigiaigbcfccaaGreatDoor
open Go.RowKit Go Go.Shelf

attribute [local go_sem] Oper.semAt_some

/-- The greatest number of a variable; -1, if there is none. -/
def hiP (l : List (Int × Tr)) : Int := l.foldl (fun m x => if x.2.kind = 1 then max m x.2.num else m) (-1)
theorem hiP_snoc (l : List (Int × Tr)) (x : Int × Tr) : hiP (l ++ [x]) = if x.2.kind = 1 then max (hiP l) x.2.num else hiP l := by simp [hiP]
theorem hi_le : ∀ (l : List (Int × Tr)) (m : Int), m ≤ l.foldl (fun m x => if x.2.kind = 1 then max m x.2.num else m) m
  | [], m => by simp
  | x :: xs, m => by
    simp only [List.foldl_cons]
    have := hi_le xs (if x.2.kind = 1 then max m x.2.num else m)
    split at this <;> simp_all <;> omega
theorem hi_mem : ∀ (l : List (Int × Tr)) (m : Int) (x : Int × Tr), x ∈ l → x.2.kind = 1 → x.2.num ≤ l.foldl (fun m x => if x.2.kind = 1 then max m x.2.num else m) m
  | y :: ys, m, x, h, hk => by
    simp only [List.foldl_cons]
    rcases List.mem_cons.1 h with rfl | h
    · have := hi_le ys (if x.2.kind = 1 then max m x.2.num else m)
      rw [if_pos hk] at this ⊢
      omega
    · exact hi_mem ys _ x h hk
theorem hi_bound : ∀ (l : List (Int × Tr)) (m N : Int), m ≤ N → (∀ x, x ∈ l → x.2.kind = 1 → x.2.num ≤ N) → l.foldl (fun m x => if x.2.kind = 1 then max m x.2.num else m) m ≤ N
  | [], m, N, h, _ => by simpa using h
  | x :: xs, m, N, h, hx => by
    simp only [List.foldl_cons]
    refine hi_bound xs _ N ?_ (fun y hy => hx y (List.mem_cons_of_mem _ hy))
    split
    · have := hx x (by simp) (by assumption); omega
    · exact h
def hiT (T : Tr) : Int := hiP (preT 1 T)
theorem hiT_lo (T : Tr) : -1 ≤ hiT T := hi_le _ _
theorem hiT_le {T : Tr} (h : isB T = true) : hiT T ≤ 99999 := by
  simp only [isB, Bool.and_eq_true] at h
  refine hi_bound _ _ _ (by omega) fun x hx hk => ?_
  have := List.all_eq_true.1 h.2 x hx
  cases hT : x.2 with
  | node k n s l =>
    rw [hT] at this hk
    simp [Tr.kind] at hk
    simp [Tr.okNode, nodeB, hk] at this
    simp [Tr.num]
    omega
mutual
theorem varsIn_of {N : Nat} : ∀ (T : Tr) (d : Int), posT T → (∀ x, x ∈ preT d T → x.2.kind = 1 → x.2.num < N) → varsIn N T
  | .node k n s l, d, hp, h => by
    unfold posT at hp
    unfold varsIn
    refine ⟨fun hk => ⟨hp.1 hk, h (d, .node k n s l) (by simp [preT]) hk⟩, varsInL_of l (d + 1) hp.2 (fun x hx => h x (by simp [preT, hx]))⟩
theorem varsInL_of {N : Nat} : ∀ (l : List Tr) (d : Int), posL l → (∀ x, x ∈ preL d l → x.2.kind = 1 → x.2.num < N) → varsInL N l
  | [], _, _, _ => by unfold varsInL; trivial
  | t :: ts, d, hp, h => by
    unfold posL at hp
    unfold varsInL
    exact ⟨varsIn_of t d hp.1 (fun x hx => h x (by simp [preL, hx])), varsInL_of ts d hp.2 (fun x hx => h x (by simp [preL, hx]))⟩
end
theorem hiT_vars {T : Tr} (h : posT T) {N : Nat} (hN : hiT T < N) : varsIn N T :=
  varsIn_of T 1 h fun x hx hk => by
    have := hi_mem (preT 1 T) (-1) x hx hk
    unfold hiT hiP at hN
    omega

set_option maxRecDepth 100000 in
set_option maxHeartbeats 2000000 in
theorem highest_any (T : Tr) (v : Value) (w : World) (hT : IsT w.heap.size w T v) (hdp : T.deep ≤ 999999999) :
    Calls Tryz.prog 52 #[v] w fun e W' => e = .returned (.int .i64 (hiT T)) ∧ Below w.heap.size w W' := by
  refine (callsIn_wide (n := 9)).1 ?_
  generalize hF : Fence.wide = F
  have hd : F.depth = none := by subst hF; rfl
  have hf : ∀ f, F.fn f := fun f => by subst hF; trivial
  have hro : F.round = none := by subst hF; rfl
  cases hTc : T with
  | node k nn s ts =>
  subst hTc
  have hT' := hT
  obtain ⟨a, c, rfl, _⟩ := hT'.open
  refine callsIn_of_wp_marks Tryz.func52 rfl (hf _) ?_ hro
  simp only [Tryz.ntmps52, List.size_toArray, List.length_cons, List.length_nil, Nat.reduceAdd, Nat.reduceSub, Array.replicate_succ, Array.replicate_zero, List.push_toArray, List.append_toArray, List.nil_append, List.cons_append]
  gi_wp2_with fail
  refine (CallsIn.mono (callsIn_of_calls hF (nodes_any _ k nn s a ts.length c rfl _)) ?_)
  rintro e w' ⟨rfl, rfl⟩
  gi_wp2_with fail
  refine range_nodesH hd hf hro (by omega) (w.heap.size + 1 + 1) w.heap.size (.node k nn s ts) (.agg #[.int .i64 k, .int .i64 nn, .string s, .slice a ts.length c]) w rfl (block_at (by simp)) (below_a3 (Nat.le_refl _) _ _ _) (by simp; omega) hT hdp rfl
    (fun ys W => Box W (w.heap.size + 1) #[.int .i64 (hiP (ys.map Nd.fg))] 3 ∧ Below w.heap.size w W)
    (fun _ _ _ => False)
    (((Box.own _ _ _).from _).and (ownFrom_below (Nat.le_refl _) (by simp; omega)))
    (fun _ _ _ _ _ hs _ _ => hs)
    ⟨(Box.at (by simp)).alloc _, below_a3 (Nat.le_refl _) _ _ _⟩ ?_
  apply Exists.intro
  apply And.intro
  · rintro l pre ⟨⟨d, T', v'⟩, hT', hd'⟩ W K hI hK
    cases T' with
    | node k' n' s' ts' =>
    obtain ⟨a', c', rfl, _⟩ := hT'.open
    simp only [Nd.encs]
    gi_wp2_with fail
    have hblk := World.alloc_heap_new W (.cells #[.int .i64 k', .int .i64 n', .string s', .slice a' ts'.length c'] 24)
    obtain ⟨b1, hB⟩ := hI
    have hKT := (KT.refl w.heap.size W).alloc hB.size (.cells #[.int .i64 k', .int .i64 n', .string s', .slice a' ts'.length c'] 24)
    have hI' := And.intro (b1.alloc (.cells #[.int .i64 k', .int .i64 n', .string s', .slice a' ts'.length c'] 24)) (hB.alloc hB.size (.cells #[.int .i64 k', .int .i64 n', .string s', .slice a' ts'.length c'] 24))
    have hKF := (KeepsOthers.alloc W (.cells #[.int .i64 k', .int .i64 n', .string s', .slice a' ts'.length c'] 24)).from
    replace hK := fun Bx W' => hK Bx W'
    dsimp only [Value.cells] at hK
    generalize W.alloc (.cells #[.int .i64 k', .int .i64 n', .string s', .slice a' ts'.length c'] 24) = W' at *
    generalize W.heap.size = Bx at *
    replace hK := hK Bx W' (hKF _) hKT hI' hblk
    generalize Value.agg #[.int .i64 k', .int .i64 n', .string s', .slice a' ts'.length c'] = v' at *
    exact hK
  refine ⟨?_, ?_, ?_⟩
  · rintro l pre ⟨⟨d, T', v'⟩, hT', hd'⟩ Bx W ⟨b1, hB⟩ hx hpre
    cases T' with
    | node k' n' s' ts' =>
    obtain ⟨a', c', rfl, _⟩ := hT'.open
    dsimp only [Value.cells] at hx
    have hm : hiP (List.map Nd.fg (pre ++ [⟨(d, .node k' n' s' ts', _), hT', hd'⟩])) = if k' = 1 then max (hiP (List.map Nd.fg pre)) n' else hiP (List.map Nd.fg pre) := by rw [List.map_append]; exact hiP_snoc _ _
    have Hm := Lib.hid hm
    have hxB : Box W Bx #[.int .i64 k', .int .i64 n', .string s', .slice a' ts'.length c'] 24 := hx
    have x0 := hxB.cell 0
    have x1 := hxB.cell 1
    have c0 := b1.cell 0
    have f0 := b1.frozen 0
    simp only [List.getElem?_toArray, List.getElem?_cons_succ, List.getElem?_cons_zero] at x0 x1 c0
    clear hx hm
    by_cases hk : k' = 1
    · rw [hk] at x0
      have Hk := Lib.hid hk
      clear hk
      gi_wp2_with fail
      all_goals
        refine ⟨(KeepsOthers.setCell _ _ _).from _, (KT.refl _ _).setBx b1 (by decide) (by omega) 0 _, ?_, hB.setCell (p := ⟨w.heap.size + 1, 0, none⟩) (by simp) _⟩
        rw [Hm.out, if_pos Hk.out]
        first
          | (rw [show max (hiP (List.map Nd.fg pre)) n' = n' from by omega]; exact b1.set 0 _)
          | (rw [show max (hiP (List.map Nd.fg pre)) n' = hiP (List.map Nd.fg pre) from by omega]; exact b1.set 0 _)
    · have hk' : (k' == 1) = false := by simpa using hk
      have Hk := Lib.hid hk
      clear hk
      gi_wp2_with fail
      refine ⟨KeepsFrom.refl _ _, KT.refl _ _, ?_, hB⟩
      rw [Hm.out, if_neg Hk.out]
      exact b1
  · rintro D xs W hDle hxs ⟨b1, hB⟩ hK
    have e2 : hiP (xs.map Nd.fg) = hiT (.node k nn s ts) := by rw [hxs]; rfl
    rw [e2] at b1
    clear e2 hxs
    have c1 := b1.cell 0
    simp only [List.getElem?_toArray, List.getElem?_cons_zero] at c1
    gi_wp2_with fail
    refine ⟨by simp, .inl ⟨_, _, rfl, run_takeDeferred hK, ?_⟩⟩
    exact ⟨_, results_tmp rfl _ _ _, rfl, hB.trans (belowK_b (w := w) (Nat.le_refl _) W D _ _ (by simp at hDle; omega) hK rfl rfl)⟩
  · rintro D c pre W _ _ h _
    exact h.elim
end Go.Proofs.YtdigiaigbcfccaaGreatDoor

namespace Go.Proofs.YtdigiaigbcfccaaGreatDoor
open Go.RowKit Go

def slots (p : Tr) : List Tr := List.replicate (hiT p + 1).toNat zeroTr
/-- What Match finds. -/
def matchR (p t : Tr) : Option (List Tr) := if isB p && isB t then matchT p t (slots p) else none

theorem made_terms (n i : Nat) (h : i < n) : (madeCells #[.int .i64 0, .int .i64 0, .string ⟨#[]⟩, .slice none 0 0] (n * 4))[i * 4]? = some (Value.int .i64 0) ∧
    (madeCells #[.int .i64 0, .int .i64 0, .string ⟨#[]⟩, .slice none 0 0] (n * 4))[i * 4 + 1]? = some (Value.int .i64 0) ∧ (madeCells #[.int .i64 0, .int .i64 0, .string ⟨#[]⟩, .slice none 0 0] (n * 4))[i * 4 + 2]? = some (Value.string ⟨#[]⟩) ∧
    (madeCells #[.int .i64 0, .int .i64 0, .string ⟨#[]⟩, .slice none 0 0] (n * 4))[i * 4 + 3]? = some (Value.slice none 0 0) := by
  have e0 : i * 4 % 4 = 0 := by omega
  have e1 : (i * 4 + 1) % 4 = 1 := by omega
  have e2 : (i * 4 + 2) % 4 = 2 := by omega
  have e3 : (i * 4 + 3) % 4 = 3 := by omega
  have h0 : i * 4 < n * 4 := by omega
  have h1 : i * 4 + 1 < n * 4 := by omega
  have h2 : i * 4 + 2 < n * 4 := by omega
  have h3 : i * 4 + 3 < n * 4 := by omega
  simp [madeCells, e0, e1, e2, e3, h0, h1, h2, h3]
theorem fnd_made (n₀ : Nat) (W : World) (n : Nat) : Fnd n₀ W (madeCells #[.int .i64 0, .int .i64 0, .string ⟨#[]⟩, .slice none 0 0] (n * 4)) (List.replicate n zeroTr) := by
  refine ⟨by rw [size_madeCells]; simp, fun i hi => ?_⟩
  simp only [List.length_replicate] at hi
  obtain ⟨c0, c1, c2, c3⟩ := made_terms n i hi
  refine ⟨0, 0, emp, [], none, 0, by simp [zeroTr], c0, c1, c2, c3, ?_⟩
  rw [List.getElem_replicate]
  exact IsT.mk (l := []) (by unfold okI; omega) (by unfold okI; omega) (by decide) (Nat.le_refl _) (by decide) IsL.nil
theorem Fnd.isL {n₀ n₁ B : Nat} {W : World} {cs : Array Value} {fs : List Tr} (h : Fnd n₀ W cs fs) (hB : Box W B cs 24) (hn : n₀ ≤ n₁) (hb : B < n₁) : IsL n₁ W fs (some ⟨B, 0, none⟩) :=
  IsL.of_get hb fun i hi => by
    obtain ⟨k, n, s, l, a, c, e, c0, c1, c2, c3, ht⟩ := h.2 i hi
    exact ⟨_, _, _, _, by rw [Nat.zero_add, hB.cell]; exact c0, by rw [Nat.zero_add, hB.cell]; exact c1, by rw [Nat.zero_add, hB.cell]; exact c2, by rw [Nat.zero_add, hB.cell]; exact c3, ht.mono hn⟩

mutual
theorem matchT_sizes {M : Nat} : ∀ (p t : Tr) (fs fs' : List Tr), (∀ x, x ∈ fs → x.size ≤ M) → t.size ≤ M → matchT p t fs = some fs' → ∀ x, x ∈ fs' → x.size ≤ M
  | .node k n s l, t, fs, fs', hf, ht, hm => by
    rw [matchT] at hm
    split at hm
    · split at hm
      · cases hm
        intro x hx
        rcases List.mem_or_eq_of_mem_set hx with h | h
        · exact hf x h
        · rw [h]; exact ht
      · split at hm
        · cases hm; exact hf
        · cases hm
    · split at hm
      · cases t with
        | node k' n' s' l' =>
          exact matchL_sizes l l' fs fs' hf (fun y hy => by have := size_mem hy; simp [Tr.size] at ht; omega) hm
      · cases hm
theorem matchL_sizes {M : Nat} : ∀ (l l' : List Tr) (fs fs' : List Tr), (∀ x, x ∈ fs → x.size ≤ M) → (∀ y, y ∈ l' → y.size ≤ M) → matchL l l' fs = some fs' → ∀ x, x ∈ fs' → x.size ≤ M
  | [], _, fs, fs', hf, _, hm => by rw [matchL] at hm; cases hm; exact hf
  | _ :: _, [], _, _, _, _, hm => by rw [matchL] at hm; cases hm
  | a :: u, b :: v, fs, fs', hf, hl, hm => by
    rw [matchL] at hm
    cases hab : matchT a b fs with
    | none => rw [hab] at hm; cases hm
    | some g =>
      rw [hab] at hm
      exact matchL_sizes u v g fs' (matchT_sizes a b fs g hf (hl b (by simp)) hab) (fun y hy => hl y (by simp [hy])) hm
end

def MatchRes (p t : Tr) (w : World) (e : Ending) (w' : World) : Prop := Below w.heap.size w w' ∧
  match matchR p t with
  | some fs => ∃ v, e = .returned (.tuple #[v, .bool true, .int .i64 0]) ∧ IsPS (New w.heap.size w') w' fs v
  | none => e = .returned (.tuple #[.slice none 0 0, .bool false, .int .i64 (errI (isB p && isB t))])

set_option maxRecDepth 100000 in
set_option maxHeartbeats 2000000 in
theorem Match_any (T U : Tr) (v u : Value) (w : World) (hv : IsT w.heap.size w T v) (hu : IsT w.heap.size w U u) (hdT : T.deep ≤ 999999999) (hdU : U.deep ≤ 999999999) :
    Calls Tryz.prog 26 #[v, u] w (MatchRes T U w) := by
  cases hTc : T with
  | node k n s l =>
  cases hUc : U with
  | node k' n' s' l' =>
  subst hTc hUc
  have hv' := hv
  have hu' := hu
  obtain ⟨a, c, rfl, _⟩ := hv'.open
  obtain ⟨a', c', rfl, _⟩ := hu'.open
  clear hv' hu'
  have HV := Lib.hid hv
  have HU := Lib.hid hu
  clear hv hu
  have b0 : Box (((w.alloc (.cells #[.int .i64 k, .int .i64 n, .string s, .slice a l.length c] 24)).alloc (.cells #[.int .i64 k', .int .i64 n', .string s', .slice a' l'.length c'] 24)).alloc (.cells #[.int .i64 k, .int .i64 n, .string s, .slice a l.length c, .int .i64 k', .int .i64 n', .string s', .slice a' l'.length c'] 24)) w.heap.size #[.int .i64 k, .int .i64 n, .string s, .slice a l.length c] 24 := ((Box.at rfl).alloc _).alloc _
  have b1 : Box (((w.alloc (.cells #[.int .i64 k, .int .i64 n, .string s, .slice a l.length c] 24)).alloc (.cells #[.int .i64 k', .int .i64 n', .string s', .slice a' l'.length c'] 24)).alloc (.cells #[.int .i64 k, .int .i64 n, .string s, .slice a l.length c, .int .i64 k', .int .i64 n', .string s', .slice a' l'.length c'] 24)) (w.heap.size + 1) #[.int .i64 k', .int .i64 n', .string s', .slice a' l'.length c'] 24 := (Box.at (by simp)).alloc _
  have hblk : Box (((w.alloc (.cells #[.int .i64 k, .int .i64 n, .string s, .slice a l.length c] 24)).alloc (.cells #[.int .i64 k', .int .i64 n', .string s', .slice a' l'.length c'] 24)).alloc (.cells #[.int .i64 k, .int .i64 n, .string s, .slice a l.length c, .int .i64 k', .int .i64 n', .string s', .slice a' l'.length c'] 24)) (w.heap.size + 1 + 1) #[.int .i64 k, .int .i64 n, .string s, .slice a l.length c, .int .i64 k', .int .i64 n', .string s', .slice a' l'.length c'] 24 := Box.at (by simp)
  have hB0 := below_a3 (Nat.le_refl w.heap.size) (.cells #[.int .i64 k, .int .i64 n, .string s, .slice a l.length c] 24) (.cells #[.int .i64 k', .int .i64 n', .string s', .slice a' l'.length c'] 24) (.cells #[.int .i64 k, .int .i64 n, .string s, .slice a l.length c, .int .i64 k', .int .i64 n', .string s', .slice a' l'.length c'] 24)
  go_enter Tryz.func26, Tryz.ntmps26
  go_wp2_with fail
  refine (checkEach_any [.node k n s l, .node k' n' s' l'] (some ⟨w.heap.size + 1 + 1, 0, none⟩) 2 _ (by unfold maxLen; simp) ?_ (by intro t ht; simp at ht; rcases ht with rfl | rfl <;> assumption)).mono ?_
  · exact IsL.cons (by simp) (hblk.cell 0) (hblk.cell 1) (hblk.cell 2) (hblk.cell 3) (HV.out.up hB0 (by simp; omega))
      (IsL.cons (by simp) (hblk.cell 4) (hblk.cell 5) (hblk.cell 6) (hblk.cell 7) (HU.out.up hB0 (by simp; omega)) IsL.nil)
  rintro e w1 ⟨rfl, hB1⟩
  have p0 := Box.keep hB1 b0
  have p1 := Box.keep hB1 b1
  have hB2 := hB0.trans (hB1.mono hB0.size)
  have l0 := p0.lt
  have l1 := p1.lt
  have q0 := p0.cell 0
  have q1 := p0.cell 1
  have q2 := p0.cell 2
  have q3 := p0.cell 3
  have r0 := p1.cell 0
  have r1 := p1.cell 1
  have r2 := p1.cell 2
  have r3 := p1.cell 3
  simp only [List.getElem?_toArray, List.getElem?_cons_succ, List.getElem?_cons_zero] at q0 q1 q2 q3 r0 r1 r2 r3
  generalize hEQ : [Tr.node k n s l, Tr.node k' n' s' l'].all isB = bT
  have hbT : Hid (bT = (isB (.node k n s l) && isB (.node k' n' s' l'))) := by rw [Hid, ← hEQ]; simp
  clear hB1 b0 b1 hblk hB0 hEQ
  cases bT with
  | false =>
    have hR : Hid (matchR (.node k n s l) (.node k' n' s' l') = none ∧ errI (isB (.node k n s l) && isB (.node k' n' s' l')) = 3) := by rw [Hid, matchR, ← hbT.out]; exact ⟨rfl, rfl⟩
    go_wp2_with fail
    go_ret3
    refine ⟨hB2, ?_⟩
    rw [hR.out.1, hR.out.2]
    rfl
  | true =>
    have hb1 : isB (.node k n s l) = true ∧ isB (.node k' n' s' l') = true := by have := hbT.out; simpa using this.symm
    have Hb1 := Lib.hid hb1
    have hlo := hiT_lo (.node k n s l)
    have hhi := hiT_le Hb1.out.1
    have hR : Hid (matchR (.node k n s l) (.node k' n' s' l') = matchT (.node k n s l) (.node k' n' s' l') (slots (.node k n s l)) ∧ errI (isB (.node k n s l) && isB (.node k' n' s' l')) = 0) := by
      rw [Hid, matchR, ← hbT.out]; exact ⟨rfl, rfl⟩
    clear hb1 hbT
    go_wp2_with fail
    refine (highest_any (.node k n s l) _ _ (HV.out.up hB2 hB2.size) hdT).mono ?_
    rintro e w2 ⟨rfl, hB3⟩
    have n0 := Box.keep hB3 p0
    have n1 := Box.keep hB3 p1
    have hB4 := hB2.trans (hB3.mono hB2.size)
    obtain ⟨N, hN⟩ : ∃ N : Nat, hiT (.node k n s l) + 1 = N := ⟨(hiT (.node k n s l) + 1).toNat, by omega⟩
    have hNs : Hid (slots (.node k n s l) = List.replicate N zeroTr) := by rw [Hid, slots, hN]; rfl
    have hNle : N ≤ 1000000 := by omega
    have hvars : varsIn N (.node k n s l) := hiT_vars (isB_pos Hb1.out.1) (by omega)
    have Hvars := Lib.hid hvars
    have hmk := fun W => mk_terms N hNle W
    have hh : hiT (.node k n s l) = (N : Int) - 1 := by omega
    have hN0 : 0 ≤ (N : Int) := by omega
    have l2 := n0.lt
    have l3 := n1.lt
    have q0 := n0.cell 0
    have q1 := n0.cell 1
    have q2 := n0.cell 2
    have q3 := n0.cell 3
    have r0 := n1.cell 0
    have r1 := n1.cell 1
    have r2 := n1.cell 2
    have r3 := n1.cell 3
    simp only [List.getElem?_toArray, List.getElem?_cons_succ, List.getElem?_cons_zero] at q0 q1 q2 q3 r0 r1 r2 r3
    rw [hh]
    have he1 : IntKind.i64.wrap ((N : Int) - 1 + 1) = N := by rw [IntKind.wrap_i64]; omega
    have he2 : (N : Int) - 1 + 1 = N := by omega
    clear hB3 p0 p1 hvars hlo hhi hN hh
    go_wp2_with fail
    have hbox : Box (w2.alloc (.cells (madeCells #[.int .i64 0, .int .i64 0, .string ⟨#[]⟩, .slice none 0 0] (N * 4)) 24)) w2.heap.size (madeCells #[.int .i64 0, .int .i64 0, .string ⟨#[]⟩, .slice none 0 0] (N * 4)) 24 := Box.at rfl
    have hB5 := hB4.trans (below_a1 hB4.size (.cells (madeCells #[.int .i64 0, .int .i64 0, .string ⟨#[]⟩, .slice none 0 0] (N * 4)) 24))
    have hlen : (List.replicate N zeroTr).length = N := List.length_replicate
    have hM := match_any w2.heap.size w2.heap.size (.node k n s l) (.node k' n' s' l') (List.replicate N zeroTr) _ _ _ (w2.alloc (.cells (madeCells #[.int .i64 0, .int .i64 0, .string ⟨#[]⟩, .slice none 0 0] (N * 4)) 24)) ((HV.out.below hB5).mono hB4.size) ((HU.out.below hB5).mono hB4.size) (by simp) (Nat.le_refl _) hbox (fnd_made _ _ N) (by rw [hlen]; exact hNle) (by rw [hlen]; exact Hvars.out)
    rw [hlen] at hM
    refine hM.mono ?_
    rintro e w3 ⟨hg, cs', fs', hbx, hfn, hfl, hres⟩
    rw [hlen] at hfl
    have hB6 := hB5.trans (grown_below hg (by have := hB4.size; simp; omega) hB4.size)
    have hl3 := hbx.lt
    have hBN : Hid (Below w.heap.size w w3) := hB6
    have hFN := Lib.hid hfn
    have hBX := Lib.hid hbx
    clear hM hg hbox hB5 hfn hbx hB6
    rcases hres with ⟨rfl, hm⟩ | ⟨rfl, hm⟩
    · have Hm := Lib.hid hm
      clear hm
      go_wp2_with fail
      have hsz : ∀ x, x ∈ fs' → x.size ≤ 1000000 := matchT_sizes _ _ _ _ (fun x hx => by rw [(List.mem_replicate.1 hx).2]; decide) (by have := (isB_size Hb1.out.2).1; omega) Hm.out
      rw [← hfl]
      refine (copyEach_any _ #[] #[] enters_copy fs' _ _ _ (by omega) (hFN.out.isL hBX.out (by omega) hl3) id (fun t ht v W hW hv => by simpa using copyTerm_any t v W hv (hsz t ht))).mono ?_
      rintro e w4 ⟨a4, c4, rfl, h6, h7, hP, hB7⟩
      rw [List.map_id] at hP
      have HP := Lib.hid hP
      have hB8 := Lib.hid (hBN.out.trans (hB7.mono hBN.out.size))
      have hs8 := hBN.out.size
      clear hP hB7
      go_wp2_with fail
      go_ret3
      refine ⟨hB8.out, ?_⟩
      rw [hR.out.1, hNs.out, Hm.out]
      exact ⟨_, rfl, a4, c4, by rw [hfl]; rfl, h6, h7, IsPL.map (fun b hb => ⟨⟨by have := hb.1; omega, hb.2⟩, rfl⟩) _ _ HP.out⟩
    · have Hm := Lib.hid hm
      clear hm
      go_wp2_with fail
      go_ret3
      refine ⟨hBN.out, ?_⟩
      rw [hR.out.1, hNs.out, Hm.out]
      show _ = Ending.returned (.tuple #[.slice none 0 0, .bool false, .int .i64 (errI (isB (.node k n s l) && isB (.node k' n' s' l')))])
      rw [hR.out.2]
      rfl
end Go.Proofs.YtdigiaigbcfccaaGreatDoor
