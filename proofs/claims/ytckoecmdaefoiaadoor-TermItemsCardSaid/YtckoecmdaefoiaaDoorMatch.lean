import Derived.StillTailTactics
import Derived.Test.YtckoecmdaefoiaaDoorSubst
import Derived.Test.YtckoecmdaefoiaaDoorSame
namespace Go.Proofs.YtckoecmdaefoiaaDoor
open Go.RowKit Go

attribute [local go_sem] monoUpon Yld.says

mutual
def Tr.beq : Tr → Tr → Bool
  | .node k n s l, .node k' n' s' l' => topB k n s l.length k' n' s' l'.length && beqL l l'
def beqL : List Tr → List Tr → Bool
  | [], [] => true
  | a :: u, b :: v => Tr.beq a b && beqL u v
  | _, _ => false
end
mutual
theorem beq_iff : ∀ (a b : Tr), Tr.beq a b = true ↔ a = b
  | .node k n s l, .node k' n' s' l' => by
    simp only [Tr.beq, topB, Bool.and_eq_true, decide_eq_true_eq, Tr.node.injEq]
    constructor
    · rintro ⟨⟨h1, h2, h3, _⟩, h⟩; exact ⟨h1, h2, h3, (beqL_iff l l').1 h⟩
    · rintro ⟨h1, h2, h3, h⟩; exact ⟨⟨h1, h2, h3, by rw [h]⟩, (beqL_iff l l').2 h⟩
theorem beqL_iff : ∀ (u v : List Tr), beqL u v = true ↔ u = v
  | [], [] => by simp [beqL]
  | [], _ :: _ => by simp [beqL]
  | _ :: _, [] => by simp [beqL]
  | a :: u, b :: v => by simp [beqL, beq_iff a b, beqL_iff u v]
end
theorem eqT_beq (a b : Tr) : eqT a b = Tr.beq a b := by
  rw [Bool.eq_iff_iff, beq_iff]; simp [eqT]

mutual
/-- What is put in the place of the variables of p so that it becomes t, beside what is known. -/
def matchT : Tr → Tr → List Tr → Option (List Tr)
  | .node k n s l, t, fs =>
    if k = 1 then (if (fs.getD n.toNat default).kind = 0 then some (fs.set n.toNat t) else if Tr.beq (fs.getD n.toNat default) t then some fs else none)
    else if topT (.node k n s l) t then matchL l t.subs fs else none
def matchL : List Tr → List Tr → List Tr → Option (List Tr)
  | [], _, fs => some fs
  | _ :: _, [], _ => none
  | a :: u, b :: v, fs => match matchT a b fs with
    | some fs' => matchL u v fs'
    | none => none
end
theorem matchL_take : ∀ (l l' : List Tr) (fs fs' : List Tr) (j : Nat) (h : j < l.length) (h' : j < l'.length), matchL (l.take j) (l'.take j) fs = some fs' → matchL (l.take (j + 1)) (l'.take (j + 1)) fs = matchT l[j] l'[j] fs'
  | a :: u, b :: v, fs, fs', 0, _, _, hm => by
    simp only [List.take_zero, matchL, Option.some.injEq] at hm
    subst hm
    simp only [List.take_succ_cons, List.take_zero, matchL, List.getElem_cons_zero]
    cases matchT a b fs <;> rfl
  | a :: u, b :: v, fs, fs', j + 1, h, h', hm => by
    simp only [List.take_succ_cons, matchL, List.getElem_cons_succ] at hm ⊢
    cases hab : matchT a b fs with
    | none => rw [hab] at hm; cases hm
    | some g =>
      rw [hab] at hm
      exact matchL_take u v g fs' j (by simpa using h) (by simpa using h') hm
theorem matchL_none : ∀ (l l' : List Tr) (fs : List Tr) (j : Nat), j ≤ l.length → l.length = l'.length → matchL (l.take j) (l'.take j) fs = none → matchL l l' fs = none
  | _, _, _, 0, _, _, hm => by simp [matchL] at hm
  | [], [], fs, j + 1, _, _, hm => by simp [matchL] at hm
  | a :: u, b :: v, fs, j + 1, h, h', hm => by
    simp only [List.take_succ_cons, matchL] at hm ⊢
    cases hab : matchT a b fs with
    | none => rfl
    | some g =>
      rw [hab] at hm
      exact matchL_none u v g j (by simpa using h) (by simpa using h') hm

mutual
/-- All variables have numbers from 0 to below N. -/
def varsIn (N : Nat) : Tr → Prop
  | .node k n _ l => (k = 1 → 0 ≤ n ∧ n < N) ∧ varsInL N l
def varsInL (N : Nat) : List Tr → Prop
  | [] => True
  | t :: ts => varsIn N t ∧ varsInL N ts
end
theorem varsInL_mem {N : Nat} {t : Tr} : ∀ {l : List Tr}, varsInL N l → t ∈ l → varsIn N t
  | x :: xs, h, ht => by
    rcases List.mem_cons.1 ht with rfl | ht
    · exact h.1
    · exact varsInL_mem h.2 ht

/-- A row of trees that lie elsewhere, below n₀. -/
def Fnd (n₀ : Nat) (W : World) (cs : Array Value) (fs : List Tr) : Prop := cs.size = fs.length * 4 ∧ ∀ i (hi : i < fs.length), ∃ (k n : Int) (s : ByteArray) (l : List Tr) (a : Option Addr) (c : Nat), fs[i] = .node k n s l ∧
  cs[i * 4]? = some (.int .i64 k) ∧ cs[i * 4 + 1]? = some (.int .i64 n) ∧ cs[i * 4 + 2]? = some (.string s) ∧ cs[i * 4 + 3]? = some (.slice a l.length c) ∧ IsT n₀ W fs[i] (.agg #[.int .i64 k, .int .i64 n, .string s, .slice a l.length c])
theorem Fnd.keep {n₀ : Nat} {A B : World} {cs : Array Value} {fs : List Tr} (h : Fnd n₀ A cs fs) (hb : Below n₀ A B) : Fnd n₀ B cs fs := ⟨h.1, fun i hi => by
  obtain ⟨k, n, s, l, a, c, e, c0, c1, c2, c3, ht⟩ := h.2 i hi
  exact ⟨k, n, s, l, a, c, e, c0, c1, c2, c3, ht.below hb⟩⟩
theorem Fnd.set {n₀ : Nat} {W : World} {cs : Array Value} {fs : List Tr} {j : Nat} {k n : Int} {s : ByteArray} {l : List Tr} {a : Option Addr} {c : Nat} (h : Fnd n₀ W cs fs) (hj : j < fs.length) (ht : IsT n₀ W (.node k n s l) (.agg #[.int .i64 k, .int .i64 n, .string s, .slice a l.length c])) :
    Fnd n₀ W ((((cs.setIfInBounds (j * 4) (.int .i64 k)).setIfInBounds (j * 4 + 1) (.int .i64 n)).setIfInBounds (j * 4 + 2) (.string s)).setIfInBounds (j * 4 + 3) (.slice a l.length c)) (fs.set j (.node k n s l)) := by
  have hsz := h.1
  refine ⟨by simp [hsz], fun i hi => ?_⟩
  simp only [List.length_set] at hi
  by_cases e : i = j
  · subst e
    refine ⟨k, n, s, l, a, c, by simp, ?_, ?_, ?_, ?_, by simpa using ht⟩
    · rw [Array.getElem?_setIfInBounds_ne (by omega), Array.getElem?_setIfInBounds_ne (by omega), Array.getElem?_setIfInBounds_ne (by omega), Array.getElem?_setIfInBounds_self_of_lt (by omega)]
    · rw [Array.getElem?_setIfInBounds_ne (by omega), Array.getElem?_setIfInBounds_ne (by omega), Array.getElem?_setIfInBounds_self_of_lt (by simp; omega)]
    · rw [Array.getElem?_setIfInBounds_ne (by omega), Array.getElem?_setIfInBounds_self_of_lt (by simp; omega)]
    · rw [Array.getElem?_setIfInBounds_self_of_lt (by simp; omega)]
  · obtain ⟨k', n', s', l', a', c', e', c0, c1, c2, c3, ht'⟩ := h.2 i hi
    have eg : (fs.set j (.node k n s l))[i]'(by simpa using hi) = fs[i] := by rw [List.getElem_set_ne (Ne.symm e)]
    refine ⟨k', n', s', l', a', c', by rw [eg]; exact e', ?_, ?_, ?_, ?_, by rw [eg]; exact ht'⟩
    · rw [Array.getElem?_setIfInBounds_ne (by omega), Array.getElem?_setIfInBounds_ne (by omega), Array.getElem?_setIfInBounds_ne (by omega), Array.getElem?_setIfInBounds_ne (by omega), c0]
    · rw [Array.getElem?_setIfInBounds_ne (by omega), Array.getElem?_setIfInBounds_ne (by omega), Array.getElem?_setIfInBounds_ne (by omega), Array.getElem?_setIfInBounds_ne (by omega), c1]
    · rw [Array.getElem?_setIfInBounds_ne (by omega), Array.getElem?_setIfInBounds_ne (by omega), Array.getElem?_setIfInBounds_ne (by omega), Array.getElem?_setIfInBounds_ne (by omega), c2]
    · rw [Array.getElem?_setIfInBounds_ne (by omega), Array.getElem?_setIfInBounds_ne (by omega), Array.getElem?_setIfInBounds_ne (by omega), Array.getElem?_setIfInBounds_ne (by omega), c3]

/-- What match leaves: the row holds what was found; all else lies as it lay. -/
def MatchPost (n₀ B : Nat) (p t : Tr) (fs : List Tr) (w : World) (e : Ending) (w' : World) : Prop := w.grownBy w' (some B) ∧ ∃ (cs' : Array Value) (fs' : List Tr), Box w' B cs' 25 ∧ Fnd n₀ w' cs' fs' ∧ fs'.length = fs.length ∧
  ((e = .returned (.bool true) ∧ matchT p t fs = some fs') ∨ (e = .returned (.bool false) ∧ matchT p t fs = none))
theorem grown_below {n₀ B : Nat} {w w' : World} (h : w.grownBy w' (some B)) (hn : n₀ ≤ w.heap.size) (hB : n₀ ≤ B) : Below n₀ w w' := ⟨h.os, h.tape, h.output, h.size, fun k hk => h.block k (by omega) (fun e => by cases e; omega)⟩
theorem grown_of_below {B : Nat} {w w' : World} (h : Below w.heap.size w w') : w.grownBy w' (some B) := ⟨h.os, h.tape, h.output, h.size, fun k hk _ => h.block k hk⟩
theorem grown_trans {B : Nat} {a b c : World} (h : a.grownBy b (some B)) (k : b.grownBy c (some B)) : a.grownBy c (some B) :=
  ⟨k.os.trans h.os, k.tape.trans h.tape, k.output.trans h.output, Nat.le_trans h.size k.size, fun i hi hn => (k.block i (Nat.lt_of_lt_of_le hi h.size) hn).trans (h.block i hi hn)⟩
theorem grown_set (B i : Nat) (w : World) (v : Value) : w.grownBy (w.setCell ⟨B, i, none⟩ v) (some B) :=
  ⟨rfl, rfl, rfl, by simp, fun k _ hk => Below.heap_setCell _ _ _ _ (fun e => hk (by rw [e]))⟩
theorem Box.grown {W W' : World} {B B' : Nat} {cs : Array Value} {t : TypeId} (h : Box W B' cs t) (hg : W.grownBy W' (some B)) (hne : B' ≠ B) : Box W' B' cs t := (hg.block B' h.lt (fun e => hne (by cases e; rfl))).trans h

set_option maxRecDepth 100000 in
set_option maxHeartbeats 2000000 in
theorem match_any (n₀ B : Nat) (p : Tr) : ∀ (t : Tr) (fs : List Tr) (cs : Array Value) (vp vt : Value) (w : World), IsT n₀ w p vp → IsT n₀ w t vt → n₀ ≤ w.heap.size → n₀ ≤ B → Box w B cs 25 → Fnd n₀ w cs fs → fs.length ≤ 1000000 → varsIn fs.length p →
    Calls Tryd.prog 107 #[vp, vt, .slice (some ⟨B, 0, none⟩) fs.length fs.length] w (MatchPost n₀ B p t fs w) := by
  induction p using Tr.ind with
  | h k n s l ih =>
    intro t fs cs vp vt w hp ht hn hnB hbox hf hfl hv
    cases t with
    | node k' n' s' l' =>
    have HP := Lib.hid hp
    have HT := Lib.hid ht
    obtain ⟨a, c, rfl, _, _, _, hlc, hcm, hl⟩ := hp.open
    obtain ⟨a', c', rfl, _, _, _, hlc', hcm', hl'⟩ := ht.open
    unfold varsIn at hv
    have HI := Lib.hid ih
    have HF := Lib.hid hf
    clear ih hp ht hf
    have hBl := hbox.lt
    have hBl2 : B < w.heap.size + 1 + 1 := by omega
    by_cases hk : k = 1
    · subst hk
      obtain ⟨hv0, hv1⟩ := hv.1 rfl
      obtain ⟨j, rfl⟩ := Int.eq_ofNat_of_zero_le hv0
      have hj : j < fs.length := by omega
      obtain ⟨fk, fn, fss, fl, fa, fc, fe, c0, c1, c2, c3, hft⟩ := HF.out.2 j hj
      have x0 := (hbox.cell (j * 4)).trans c0
      have x1 := (hbox.cell (j * 4 + 1)).trans c1
      have x2 := (hbox.cell (j * 4 + 2)).trans c2
      have x3 := (hbox.cell (j * 4 + 3)).trans c3
      have f0 := hbox.frozen (j * 4)
      have f1 := hbox.frozen (j * 4 + 1)
      have f2 := hbox.frozen (j * 4 + 2)
      have f3 := hbox.frozen (j * 4 + 3)
      have hgd : fs.getD (↑j : Int).toNat default = fs[j] := by simp [List.getElem?_eq_getElem hj]
      clear hv hv0 c0 c1 c2 c3
      by_cases hfk : fk = 0
      · have hM : Hid (matchT (.node 1 j s l) (.node k' n' s' l') fs = some (fs.set j (.node k' n' s' l'))) := by
          unfold Hid
          rw [matchT, if_pos rfl, hgd, if_pos (by rw [fe]; exact hfk)]
          rfl
        rw [hfk] at x0
        have Fe := Lib.hid fe
        have hg : w.grownBy ((((((w.setCell ⟨B, j * 4, none⟩ (.int .i64 k')).setCell ⟨B, j * 4 + 1, none⟩ (.int .i64 n')).setCell ⟨B, j * 4 + 2, none⟩ (.string s')).setCell ⟨B, j * 4 + 3, none⟩ (.slice a' l'.length c')).alloc (.cells #[.int .i64 1, .int .i64 j, .string s, .slice a l.length c] 25)).alloc (.cells #[.int .i64 k', .int .i64 n', .string s', .slice a' l'.length c'] 25)) (some B) :=
          grown_trans (grown_trans (grown_trans (grown_trans (grown_set B (j * 4) w _) (grown_set B (j * 4 + 1) _ _)) (grown_set B (j * 4 + 2) _ _)) (grown_set B (j * 4 + 3) _ _)) (grown_of_below (below_a2 (Nat.le_refl _) _ _))
        have hb6 := (((((hbox.set (j * 4) (.int .i64 k')).set (j * 4 + 1) (.int .i64 n')).set (j * 4 + 2) (.string s')).set (j * 4 + 3) (.slice a' l'.length c')).alloc (.cells #[.int .i64 1, .int .i64 j, .string s, .slice a l.length c] 25)).alloc (.cells #[.int .i64 k', .int .i64 n', .string s', .slice a' l'.length c'] 25)
        have hF6 := HF.out
        clear hfk hgd fe
        go_enter Tryd.func107, Tryd.ntmps107
        go_wp2_with fail
        apply wp_region_mono [.det _, .det _, .det _, .det _, .det _, .det _, .det _, .det _] (by kernel_rfl) (by kernel_rfl)
        rotate_left
        · iterate 6 (
            refine wpM_step (fun K hK => ?_)
            go_simp
            apply And.intro
            · intro w' hC _
              have q1 := hC.old.1
              have hbs := hC.old.2.2
              clear hC
              go_simp
              exact ⟨Ext.refl _, rfl⟩
            refine nextM_det (hK _ _ ?_)
            clear hK K)
          refine wpM_step (fun K hK => ?_)
          go_simp
          apply And.intro
          · intro w' hC _
            go_simp
            have hg' := grown_trans hg (grown_of_below (B := B) hC)
            refine ⟨Ext.refl _, (same_any (.node k' n' s' l') (.node k' n' s' l') _ _ w' (HT.out.up (grown_below hg' hn hnB) (Nat.le_trans hn hg'.size)) (HT.out.up (grown_below hg' hn hnB) (Nat.le_trans hn hg'.size))).mono ?_⟩
            rintro e w1 ⟨rfl, hB1⟩
            exact ⟨congrArg (fun b => Ending.returned (Value.bool b)) (show eqT (Tr.node k' n' s' l') (.node k' n' s' l') = true by simp [eqT]), hB1⟩
          refine nextM_det (hK _ _ ?_)
          clear hK K
          iterate 1 (
            refine wpM_step (fun K hK => ?_)
            go_simp
            apply And.intro
            · intro w' hC _
              have q1 := hC.old.1
              have hbs := hC.old.2.2
              clear hC
              go_simp
              exact ⟨Ext.refl _, rfl⟩
            refine nextM_det (hK _ _ ?_)
            clear hK K)
          refine wpM_nil ?_
          intro w1 hC1 _
          have hg1 := grown_trans hg (grown_of_below (B := B) hC1)
          have hbx := Box.keep hC1 hb6
          have hfnd := (Fnd.set hF6 hj (HT.out)).keep (grown_below hg1 hn hnB)
          have Hfnd := Lib.hid hfnd
          clear hC1 hfnd hF6
          go_wp2_with fail
          go_ret
          exact ⟨hg1, _, _, hbx, Hfnd.out, by simp, .inl ⟨rfl, hM.out⟩⟩
        · intro y hy
          simp only [List.mem_cons, List.not_mem_nil, or_false] at hy
          rcases hy with rfl | rfl | rfl | rfl | rfl | rfl | rfl | rfl <;> first | trivial
      · have hM : Hid (matchT (.node 1 j s l) (.node k' n' s' l') fs = if Tr.beq fs[j] (.node k' n' s' l') then some fs else none) := by
          unfold Hid
          rw [matchT, if_pos rfl, hgd, if_neg (by rw [fe]; exact hfk)]
        have hfk' : (fk == 0) = false := by simpa using hfk
        have Fe := Lib.hid fe
        clear hfk hgd fe
        go_enter Tryd.func107, Tryd.ntmps107
        go_wp2_with fail
        apply wp_region_mono [.det _, .det _, .det _, .det _, .det _, .det _, .det _, .det _] (by kernel_rfl) (by kernel_rfl)
        rotate_left
        · iterate 6 (
            refine wpM_step (fun K hK => ?_)
            go_simp
            apply And.intro
            · intro w' hC _
              have q1 := hC.old.1
              have hbs := hC.old.2.2
              clear hC
              go_simp
              exact ⟨Ext.refl _, rfl⟩
            refine nextM_det (hK _ _ ?_)
            clear hK K)
          refine wpM_step (fun K hK => ?_)
          go_simp
          apply And.intro
          · intro w' hC _
            go_simp
            have hg' := grown_trans (grown_of_below (B := B) (below_a2 (Nat.le_refl w.heap.size) _ _)) (grown_of_below (B := B) hC)
            refine ⟨Ext.refl _, (same_any fs[j] (.node k' n' s' l') _ _ w' (hft.up (grown_below hg' hn hnB) (Nat.le_trans hn hg'.size)) (HT.out.up (grown_below hg' hn hnB) (Nat.le_trans hn hg'.size))).mono ?_⟩
            rintro e w1 ⟨rfl, hB1⟩
            exact ⟨rfl, hB1⟩
          refine nextM_det (hK _ _ ?_)
          clear hK K
          iterate 1 (
            refine wpM_step (fun K hK => ?_)
            go_simp
            apply And.intro
            · intro w' hC _
              have q1 := hC.old.1
              have hbs := hC.old.2.2
              clear hC
              go_simp
              exact ⟨Ext.refl _, rfl⟩
            refine nextM_det (hK _ _ ?_)
            clear hK K)
          refine wpM_nil ?_
          intro w1 hC1 _
          have hg1 := grown_trans (grown_of_below (B := B) (below_a2 (Nat.le_refl w.heap.size) _ _)) (grown_of_below (B := B) hC1)
          have hbx := Box.keep hC1 ((hbox.alloc _).alloc _)
          have hfnd := HF.out.keep (grown_below hg1 hn hnB)
          have Hfnd := Lib.hid hfnd
          clear hC1 hfnd
          rw [eqT_beq]
          cases hbq : Tr.beq fs[j] (.node k' n' s' l') with
          | true =>
            have hM2 : Hid (matchT (.node 1 j s l) (.node k' n' s' l') fs = some fs) := by rw [Hid, hM.out, hbq]; rfl
            clear hbq
            go_wp2_with fail
            go_ret
            exact ⟨hg1, _, _, hbx, Hfnd.out, rfl, .inl ⟨rfl, hM2.out⟩⟩
          | false =>
            have hM2 : Hid (matchT (.node 1 j s l) (.node k' n' s' l') fs = none) := by rw [Hid, hM.out, hbq]; rfl
            clear hbq
            go_wp2_with fail
            go_ret
            exact ⟨hg1, _, _, hbx, Hfnd.out, rfl, .inr ⟨rfl, hM2.out⟩⟩
        · intro y hy
          simp only [List.mem_cons, List.not_mem_nil, or_false] at hy
          rcases hy with rfl | rfl | rfl | rfl | rfl | rfl | rfl | rfl <;> first | trivial
    · have hk' : (k == 1) = false := by simpa using hk
      cases htop : topB k n s l.length k' n' s' l'.length with
      | false =>
        have hM : Hid (matchT (.node k n s l) (.node k' n' s' l') fs = none) := by
          unfold Hid
          rw [matchT, if_neg hk, if_neg (by simp [topT, htop])]
        have Htop := Lib.hid htop
        clear hk htop
        go_enter Tryd.func107, Tryd.ntmps107
        go_wp2_with fail
        refine (sameTop_any k n s l.length k' n' s' l'.length a a' c c' _).mono ?_
        rintro e w1 ⟨rfl, hB1⟩
        rw [Htop.out]
        have hg1 := grown_trans (grown_of_below (B := B) (below_a2 (Nat.le_refl w.heap.size) _ _)) (grown_of_below (B := B) hB1)
        have hbx := Box.keep hB1 ((hbox.alloc _).alloc _)
        have hfnd := HF.out.keep (grown_below hg1 hn hnB)
        have Hfnd := Lib.hid hfnd
        clear hB1 hfnd
        go_wp2_with fail
        go_ret
        exact ⟨hg1, _, _, hbx, Hfnd.out, rfl, .inr ⟨rfl, hM.out⟩⟩
      | true =>
        have hM : Hid (matchT (.node k n s l) (.node k' n' s' l') fs = matchL l l' fs) := by
          unfold Hid
          rw [matchT, if_neg hk, if_pos (by simp [topT, htop])]
          rfl
        have hlen : l.length = l'.length := by simp [topB] at htop; exact htop.2.2.2
        have Hlen := Lib.hid hlen
        have hle1 : l.length ≤ l'.length := by omega
        have Htop := Lib.hid htop
        clear hk htop hlen
        unfold maxLen at hcm hcm'
        have b1 : Box ((w.alloc (.cells #[.int .i64 k, .int .i64 n, .string s, .slice a l.length c] 25)).alloc (.cells #[.int .i64 k', .int .i64 n', .string s', .slice a' l'.length c'] 25)) w.heap.size #[.int .i64 k, .int .i64 n, .string s, .slice a l.length c] 25 := (Box.at rfl).alloc _
        have b2 : Box ((w.alloc (.cells #[.int .i64 k, .int .i64 n, .string s, .slice a l.length c] 25)).alloc (.cells #[.int .i64 k', .int .i64 n', .string s', .slice a' l'.length c'] 25)) (w.heap.size + 1) #[.int .i64 k', .int .i64 n', .string s', .slice a' l'.length c'] 25 := Box.at (by simp)
        go_enter Tryd.func107, Tryd.ntmps107
        go_wp2_with fail
        refine (sameTop_any k n s l.length k' n' s' l'.length a a' c c' _).mono ?_
        rintro e w1 ⟨rfl, hB1⟩
        rw [Htop.out]
        have hg1 := grown_trans (grown_of_below (B := B) (below_a2 (Nat.le_refl w.heap.size) _ _)) (grown_of_below (B := B) hB1)
        have hbx := Box.keep hB1 ((hbox.alloc _).alloc _)
        have d1 := Box.keep hB1 b1
        have d2 := Box.keep hB1 b2
        have hfnd := HF.out.keep (grown_below hg1 hn hnB)
        have Hfnd := Lib.hid hfnd
        have l1 := d1.lt
        have l2 := d2.lt
        have r3 := d1.cell 3
        have u3 := d2.cell 3
        simp only [List.getElem?_toArray, List.getElem?_cons_succ, List.getElem?_cons_zero] at r3 u3
        clear hB1 hfnd b1 b2
        by_cases h0 : 0 < l.length
        · obtain ⟨b, off, rfl, hb⟩ := hl.addr h0
          obtain ⟨b', off', rfl, hb'⟩ := hl'.addr (by omega)
          go_wp2_with fail
          go_loopw [38] (fun i wr => ∃ (j : Nat) (cs' : Array Value) (fs' : List Tr), j ≤ l.length ∧ i = .int .i64 j ∧ Box wr B cs' 25 ∧ Fnd n₀ wr cs' fs' ∧ fs'.length = fs.length ∧ matchL (l.take j) (l'.take j) fs = some fs' ∧ w.grownBy wr (some B) ∧ w1.grownBy wr (some B)) (fun i _ => l.length - (intOf i).toNat)
          case atStart => exact ⟨0, _, _, Nat.zero_le _, rfl, hbx, Hfnd.out, rfl, by simp [matchL], hg1, ⟨rfl, rfl, rfl, Nat.le_refl _, fun _ _ _ => rfl⟩⟩
          case round =>
            obtain ⟨j, cs', fs', hj, rfl, hbj, hfj, hfl', hml, hgj, hgw⟩ := hrel
            have Hml := Lib.hid hml
            have Hfj := Lib.hid hfj
            have Hfl := Lib.hid hfl'
            have g1 := d1.grown hgw (by omega)
            have g2 := d2.grown hgw (by omega)
            have m1 := g1.lt
            have m2 := g2.lt
            have z3 := g2.cell 3
            simp only [List.getElem?_toArray, List.getElem?_cons_succ, List.getElem?_cons_zero] at z3
            have hBj := grown_below hgj hn hnB
            clear hml hfj hfl'
            by_cases hlt : j < l.length
            · have hlt' : j < l'.length := by omega
              obtain ⟨tk, tn, ts, tl, ta, tc, te, c0, c1, c2, c3, ht⟩ := hl.node' hb hBj j hlt
              obtain ⟨uk, un, us, ul, ua, uc, ue, e0, e1, e2, e3, hu⟩ := hl'.node' hb' hBj j hlt'
              have Te := Lib.hid te
              have Ue := Lib.hid ue
              clear te ue
              have hbw : b < wr.heap.size := by have := hBj.size; omega
              have hbw' : b' < wr.heap.size := by have := hBj.size; omega
              go_wp2_with fail
              refine wp_region_still_tail 7 (by kernel_rfl) (by kernel_rfl) ?_
              have hX : Ext (wr.alloc (.cells #[.int .i64 tk, .int .i64 tn, .string ts, .slice ta tl.length tc] 25)) { (wr.alloc (.cells #[.int .i64 tk, .int .i64 tn, .string ts, .slice ta tl.length tc] 25)) with drawn := (wr.alloc (.cells #[.int .i64 tk, .int .i64 tn, .string ts, .slice ta tl.length tc] 25)).drawn + 1 } := (Below.refl _ _).drew
              generalize ({ (wr.alloc (.cells #[.int .i64 tk, .int .i64 tn, .string ts, .slice ta tl.length tc] 25)) with drawn := (wr.alloc (.cells #[.int .i64 tk, .int .i64 tn, .string ts, .slice ta tl.length tc] 25)).drawn + 1 } : World) = W6 at hX ⊢
              have q1 := hX.old.1
              have hsX := hX.old.2.2
              simp only [World.size_alloc] at q1 hsX
              have v1 : b' < wr.heap.size + 1 := by omega
              have v2 : w.heap.size + 1 < wr.heap.size + 1 := by omega
              have v3 : wr.heap.size < wr.heap.size + 1 := by omega
              simp only [List.take_succ_cons, List.take_zero, List.drop_succ_cons, List.drop_zero]
              iterate 7 still_step
              refine wpStill_nil ?_
              have hB6 : Below n₀ wr W6 := (below_a1 (Nat.le_trans hn hgj.size) _).trans (Below.mono hX (size_a1 (Nat.le_trans hn hgj.size) _))
              have hg6 : wr.grownBy W6 (some B) := grown_trans (grown_of_below (below_a1 (Nat.le_refl _) _)) (grown_of_below hX)
              have hcall := HI.out _ (List.getElem_mem hlt) l'[j] fs' cs' _ _ W6 (ht.below (hBj.trans hB6)) (hu.below (hBj.trans hB6)) (by have := hB6.size; omega) hnB (Box.keep hX (hbj.alloc _)) (Hfj.out.keep hB6) (by rw [Hfl.out]; exact hfl) (by rw [Hfl.out]; exact varsInL_mem hv.2 (List.getElem_mem hlt))
              rw [Hfl.out] at hcall
              clear q1 hX
              go_wp2_with fail
              refine hcall.mono ?_
              clear hcall
              rintro e w3 ⟨hg7, cs2, fs2, hbx2, hfn2, hfl2, hcase⟩
              have Hfn2 := Lib.hid hfn2
              have Hfl2 := Lib.hid hfl2
              have hgt := grown_trans (grown_trans hgj hg6) hg7
              have hgt1 := grown_trans (grown_trans hgw hg6) hg7
              clear hfn2 hfl2 hg7 hg6 hgj hgw c0 c1 c2 c3 e0 e1 e2 e3 z3
              rcases hcase with ⟨rfl, hm2⟩ | ⟨rfl, hm2⟩
              · have Hm2 := Lib.hid hm2
                clear hm2
                go_wp2_with fail
                go_roundw
                case rel => exact ⟨j + 1, cs2, fs2, hlt, by go_num, hbx2, Hfn2.out, by rw [Hfl2.out, Hfl.out], by rw [matchL_take l l' fs fs' j hlt hlt' Hml.out]; exact Hm2.out, hgt, hgt1⟩
                case measure => simp [intOf]; omega
              · have hnone : Hid (matchT (.node k n s l) (.node k' n' s' l') fs = none) := by
                  rw [Hid, hM.out]
                  exact matchL_none l l' fs (j + 1) hlt Hlen.out (by rw [matchL_take l l' fs fs' j hlt hlt' Hml.out]; exact hm2)
                clear hm2
                go_wp2_with fail
                go_ret
                exact ⟨hgt, cs2, fs2, hbx2, Hfn2.out, by rw [Hfl2.out, Hfl.out], .inr ⟨rfl, hnone.out⟩⟩
            · have hsome : Hid (matchT (.node k n s l) (.node k' n' s' l') fs = some fs') := by
                have := Hml.out
                rw [List.take_of_length_le (by omega), List.take_of_length_le (by have := Hlen.out; omega)] at this
                rw [Hid, hM.out]; exact this
              go_wp2_with fail
              go_ret
              exact ⟨hgj, cs', fs', hbj, Hfj.out, Hfl.out, .inl ⟨rfl, hsome.out⟩⟩
        · have e1 : l = [] := List.length_eq_zero_iff.1 (by omega)
          subst e1
          have hsome : Hid (matchT (.node k n s []) (.node k' n' s' l') fs = some fs) := by
            rw [Hid, hM.out]; simp [matchL]
          clear h0
          simp only [List.length_nil] at r3 ⊢
          go_wp2_with fail
          refine wp_loop_rounds 1 ?_
          rw [rounds_succ]
          go_wp2_with fail
          go_ret
          exact ⟨hg1, _, _, hbx, Hfnd.out, rfl, .inl ⟨rfl, hsome.out⟩⟩

end Go.Proofs.YtckoecmdaefoiaaDoor
