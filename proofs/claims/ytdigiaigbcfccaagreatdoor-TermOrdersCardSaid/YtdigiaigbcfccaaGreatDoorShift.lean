/- How often a variable occurs in a term; whether it has any; the term with its variables greater. -/
import Derived.Test.YtdigiaigbcfccaaGreatDoorNorm
namespace Go.Proofs.YtdigiaigbcfccaaGreatDoor
open Go.RowKit Go Go.Shelf

attribute [local go_sem] Oper.semAt_some

/-- A store of what is there. -/
theorem Box.same {W : World} {B : Nat} {cs : Array Value} {t : TypeId} (h : Box W B cs t) (i : Nat) (v : Value) (hc : cs.setIfInBounds i v = cs) : (W.setCell ⟨B, i, none⟩ v).heap[B]? = W.heap[B]? := by
  have := h.set i v
  rw [hc] at this
  exact Eq.trans this (Eq.symm h)
theorem KT.same {n₀ B : Nat} {A W : World} {cs : Array Value} {t : TypeId} (h : KT n₀ A W) (hb : Box W B cs t) (hn : n₀ ≤ B) (i : Nat) (u : Value) (hc : cs.setIfInBounds i u = cs) : KT n₀ A (W.setCell ⟨B, i, none⟩ u) :=
  ⟨h.below.setCell (p := ⟨B, i, none⟩) hn u, fun k c fr hk => by
    have h1 := h.terms k c fr hk
    by_cases e : k = B
    · subst e
      exact (hb.same i u hc).trans h1
    · exact (Below.heap_setCell W ⟨B, i, none⟩ u k e).trans h1⟩
def TimesPost (x : Int) (T : Tr) (w : World) (e : Ending) (w' : World) : Prop := e = .returned (.tuple #[.int .i64 (if isB T then (tmsT x T : Int) else 0), .int .i64 (errI (isB T))]) ∧ Below w.heap.size w w'
def GroundPost (T : Tr) (w : World) (e : Ending) (w' : World) : Prop := e = .returned (.tuple #[.bool (isB T && grdB T), .int .i64 (errI (isB T))]) ∧ Below w.heap.size w w'
def grdP (xs : List (Int × Tr)) : Bool := xs.all fun x => !decide (x.2.kind = 1)
theorem grdP_snoc (xs : List (Int × Tr)) (x : Int × Tr) : grdP (xs ++ [x]) = (grdP xs && !decide (x.2.kind = 1)) := by simp [grdP]
theorem grdP_pre {q l : List (Int × Tr)} (h : q <+: l) (hf : grdP q = false) : grdP l = false := by
  obtain ⟨r, rfl⟩ := h
  rw [grdP, List.all_append]
  rw [grdP] at hf
  rw [hf]
  rfl
/-- What Shift asks of a node. -/
def shW (n : Int) (k x : Int) : Bool := !decide (k = 1) || (decide (wrap64 (-x) ≤ n) && decide (n < wrap64 (100000 - x)))
def shB (n : Int) (x : Int × Tr) : Bool := shW n x.2.kind x.2.num
theorem shW_one (n x : Int) : shW n 1 x = (decide (wrap64 (-x) ≤ n) && decide (n < wrap64 (100000 - x))) := rfl
theorem shW_other {k : Int} (n x : Int) (h : k ≠ 1) : shW n k x = true := by simp [shW, h]
def shP (n : Int) (xs : List (Int × Tr)) : Bool := xs.all (shB n)
theorem shOk_all {T : Tr} (n : Int) (h : isB T = true) : shOk n T = shP n (preT 1 T) := by
  have hg := (isB_is h).1
  rw [← good_preT 1] at hg
  rw [shOk, shP, Bool.eq_iff_iff, List.all_eq_true, List.all_eq_true]
  refine forall_congr' fun x => forall_congr' fun hx => ?_
  have hn := List.all_eq_true.1 hg x hx
  obtain ⟨d, T'⟩ := x
  cases T' with
  | node k x s l =>
  by_cases hk : k = 1
  · subst hk
    simp only [Tr.okNode, nodeB, if_true, Bool.and_eq_true, decide_eq_true_eq] at hn
    rw [shB, Tr.kind, Tr.num, shW_one, IntWalk.wrap64_in _ (by omega), IntWalk.wrap64_in _ (by omega)]
    simp
  · simp [shB, Tr.kind, Tr.num, shW_other _ _ hk, hk]
theorem shP_snoc (n : Int) (xs : List (Int × Tr)) (x : Int × Tr) : shP n (xs ++ [x]) = (shP n xs && shB n x) := by simp [shP]
theorem shP_pre {n : Int} {q l : List (Int × Tr)} (h : q <+: l) (hf : shP n q = false) : shP n l = false := by
  obtain ⟨r, rfl⟩ := h
  rw [shP, List.all_append]
  rw [shP] at hf
  rw [hf]
  rfl
def ShiftPost (n : Int) (T : Tr) (w : World) (e : Ending) (w' : World) : Prop := ∃ v', e = .returned (.tuple #[v', .int .i64 (shE n T)]) ∧ IsP (New w.heap.size w') w' (shV n T) v' ∧ Below w.heap.size w w'


set_option maxRecDepth 100000 in
set_option maxHeartbeats 2000000 in
theorem times_any (T : Tr) (x : Int) (v : Value) (w : World) (hT : IsT w.heap.size w T v) (hdp : T.deep ≤ 999999999) :
    Calls Tryz.prog 10 #[v, .int .i64 x] w (TimesPost x T w) := by
  refine (callsIn_wide (n := 9)).1 ?_
  generalize hF : Fence.wide = F
  have hd : F.depth = none := by subst hF; rfl
  have hf : ∀ f, F.fn f := fun f => by subst hF; trivial
  have hro : F.round = none := by subst hF; rfl
  cases hTc : T with
  | node k nn s ts =>
  subst hTc
  have hT' := hT
  obtain ⟨a, c, rfl, _⟩ := hT'.open
  clear hT'
  have H := Lib.hid hT
  clear hT
  have bt : Box (((w.alloc (.cells #[.int .i64 k, .int .i64 nn, .string s, .slice a ts.length c] 24)).alloc (.cells #[.int .i64 x] 3)).alloc (.cells #[.int .i64 k, .int .i64 nn, .string s, .slice a ts.length c] 24)) (w.heap.size) #[.int .i64 k, .int .i64 nn, .string s, .slice a ts.length c] 24 := ((Box.at rfl).alloc _).alloc _
  have bv : Box (((w.alloc (.cells #[.int .i64 k, .int .i64 nn, .string s, .slice a ts.length c] 24)).alloc (.cells #[.int .i64 x] 3)).alloc (.cells #[.int .i64 k, .int .i64 nn, .string s, .slice a ts.length c] 24)) (w.heap.size + 1) #[.int .i64 x] 3 := (Box.at (by simp)).alloc _
  have bz : Box (((w.alloc (.cells #[.int .i64 k, .int .i64 nn, .string s, .slice a ts.length c] 24)).alloc (.cells #[.int .i64 x] 3)).alloc (.cells #[.int .i64 k, .int .i64 nn, .string s, .slice a ts.length c] 24)) (w.heap.size + 1 + 1) #[.int .i64 k, .int .i64 nn, .string s, .slice a ts.length c] 24 := Box.at (by simp)
  have hB0 := ((below_a1 (Nat.le_refl w.heap.size) (.cells #[.int .i64 k, .int .i64 nn, .string s, .slice a ts.length c] 24)).alloc (by simp) (.cells #[.int .i64 x] 3)).alloc (by simp; omega) (.cells #[.int .i64 k, .int .i64 nn, .string s, .slice a ts.length c] 24)
  refine callsIn_of_wp_marks Tryz.func10 rfl (hf _) ?_ hro
  simp only [Tryz.ntmps10, List.size_toArray, List.length_cons, List.length_nil, Nat.reduceAdd, Nat.reduceSub, Array.replicate_succ, Array.replicate_zero, List.push_toArray, List.append_toArray, List.nil_append, List.cons_append]
  gi_wp2_with fail
  refine CallsIn.mono (callsIn_of_calls hF (checkEach_any [.node k nn s ts] (some ⟨w.heap.size + 1 + 1, 0, none⟩) 1 _ (by unfold maxLen; simp) ?_ (by intro t ht; simp at ht; rcases ht with rfl; assumption))) ?_
  · exact IsL.cons (by simp; try omega) (bz.cell 0) (bz.cell 1) (bz.cell 2) (bz.cell 3) (H.out.up hB0 hB0.size) IsL.nil
  rintro e w1 ⟨rfl, hB1⟩
  replace bt := Box.keep hB1 bt
  replace bv := Box.keep hB1 bv
  have hB2 := hB0.trans (hB1.mono hB0.size)
  have hs1 := hB1.size
  simp only [World.size_alloc] at hs1
  generalize hEQ : [Tr.node k nn s ts].all isB = bT
  have hbT : Hid (isB (.node k nn s ts) = bT) := by rw [Hid, ← hEQ]; simp
  clear hB1 bz hB0 hEQ
  have qt0 := bt.cell 0
  have qt1 := bt.cell 1
  have qt2 := bt.cell 2
  have qt3 := bt.cell 3
  have lt := bt.lt
  simp only [List.getElem?_toArray, List.getElem?_cons_succ, List.getElem?_cons_zero] at qt0 qt1 qt2 qt3
  cases bT with
  | false =>
    rw [show errI false = 3 from rfl]
    gi_wp2_with fail
    refine ⟨.tuple #[.int .i64 0, .int .i64 3], by simp [results, Tryz.results10, go_sem], ?_, hB2⟩
    rw [hbT.out]; rfl
  | true =>
    rw [show errI true = 0 from rfl]
    have hz := isB_size hbT.out
    gi_wp2_with fail
    refine CallsIn.mono (callsIn_of_calls hF (nodes_any _ k nn s a ts.length c rfl _)) ?_
    rintro e w' ⟨rfl, rfl⟩
    gi_wp2_with fail
    have hB3 := hB2.trans (below_a2 hB2.size (.cells #[.int .i64 0] 3) (.cells #[.int .i64 k, .int .i64 nn, .string s, .slice a ts.length c] 24))
    have bv3 := (bv.alloc (.cells #[.int .i64 0] 3)).alloc (.cells #[.int .i64 k, .int .i64 nn, .string s, .slice a ts.length c] 24)
    have Hln : Hid (tmsP x (preT 1 (.node k nn s ts)) ≤ 4000) := by have := tms_le x (.node k nn s ts); unfold Hid; unfold tmsT at this; omega
    refine range_nodesH hd hf hro (by omega) (w1.heap.size + 1) w.heap.size (.node k nn s ts) (.agg #[.int .i64 k, .int .i64 nn, .string s, .slice a ts.length c]) w rfl (block_at (by simp)) hB3 hB3.size H.out hdp rfl
      (fun ys W => Box W w1.heap.size #[.int .i64 (tmsP x (ys.map Nd.fg))] 3 ∧ (tmsP x (ys.map Nd.fg) ≤ ys.length ∧ Box W (w.heap.size + 1) #[.int .i64 x] 3 ∧ Below w.heap.size w W))
      (fun _ _ _ => False)
      (((Box.own _ _ _).from _).and (OwnFrom.and (fun _ _ _ _ h _ _ => h) (((Box.own _ _ (fun _ => _)).from _).and (ownFrom_below (Nat.le_refl _) (by simp; omega)))))
      (fun _ _ _ _ _ hs _ _ => hs)
      ⟨(Box.at rfl).alloc _, by simp [tmsP], bv3, hB3⟩ ?_
    clear bt bv bv3 hB3 qt0 qt1 qt2 qt3
    apply Exists.intro
    apply And.intro
    · rintro l pre ⟨⟨d, T', v'⟩, hT', hd'⟩ W K hI hK
      cases T' with
      | node k' n' s' ts' =>
      obtain ⟨a', c', rfl, _⟩ := hT'.open
      simp only [Nd.encs]
      gi_wp2_with fail
      have hblk := World.alloc_heap_new W (.cells #[.int .i64 k', .int .i64 n', .string s', .slice a' ts'.length c'] 24)
      obtain ⟨b1, hle, b2, hB⟩ := hI
      have hKT := (KT.refl w.heap.size W).alloc hB.size (.cells #[.int .i64 k', .int .i64 n', .string s', .slice a' ts'.length c'] 24)
      have hI' := And.intro (b1.alloc (.cells #[.int .i64 k', .int .i64 n', .string s', .slice a' ts'.length c'] 24)) (And.intro hle (And.intro (b2.alloc (.cells #[.int .i64 k', .int .i64 n', .string s', .slice a' ts'.length c'] 24)) (hB.alloc hB.size (.cells #[.int .i64 k', .int .i64 n', .string s', .slice a' ts'.length c'] 24))))
      have hKF := (KeepsOthers.alloc W (.cells #[.int .i64 k', .int .i64 n', .string s', .slice a' ts'.length c'] 24)).from
      replace hK := fun Bx W' => hK Bx W'
      dsimp only [Value.cells] at hK
      generalize W.alloc (.cells #[.int .i64 k', .int .i64 n', .string s', .slice a' ts'.length c'] 24) = W' at *
      generalize W.heap.size = Bx at *
      replace hK := hK Bx W' (hKF _) hKT hI' hblk
      generalize Value.agg #[.int .i64 k', .int .i64 n', .string s', .slice a' ts'.length c'] = v' at *
      exact hK
    refine ⟨?_, ?_, fun D c pre W _ _ h _ => h.elim⟩
    · rintro l pre ⟨⟨d, T', v'⟩, hT', hd'⟩ Bx W ⟨b1, hle, b2, hB⟩ hx hpre
      cases T' with
      | node k' n' s' ts' =>
      obtain ⟨a', c', rfl, _⟩ := hT'.open
      dsimp only [Value.cells] at hx
      have hm : tmsP x (List.map Nd.fg (pre ++ [⟨(d, .node k' n' s' ts', _), hT', hd'⟩])) = tmsP x (List.map Nd.fg pre) + if isV x (d, .node k' n' s' ts') then 1 else 0 := by rw [List.map_append]; exact tmsP_snoc _ _ _
      have Hm := Lib.hid hm
      have hxB : Box W Bx #[.int .i64 k', .int .i64 n', .string s', .slice a' ts'.length c'] 24 := hx
      have x0 := hxB.cell 0
      have x1 := hxB.cell 1
      have c0 := b1.cell 0
      have c2 := b2.cell 0
      have f0 := b1.frozen 0
      simp only [List.getElem?_toArray, List.getElem?_cons_succ, List.getElem?_cons_zero] at x0 x1 c0 c2
      have hl4 : pre.length ≤ 4000 := by omega
      have HX := Lib.hid hxB
      clear hx hm hxB
      obtain ⟨m, hmm⟩ : ∃ m, tmsP x (List.map Nd.fg pre) = m := ⟨_, rfl⟩
      rw [hmm] at c0 hle b1
      have Hmm := Lib.hid hmm
      clear hmm
      have fin0 : isV x (d, .node k' n' s' ts') = false → ∀ a0 : Act, ownPostG (w1.alloc (.cells #[.int .i64 0] 3) |>.alloc (.cells #[.int .i64 k, .int .i64 nn, .string s, .slice a ts.length c] 24)).heap.size (KT w.heap.size) (fun (ys : List (Nd w.heap.size w)) W => Box W w1.heap.size #[.int .i64 (tmsP x (ys.map Nd.fg))] 3 ∧ (tmsP x (ys.map Nd.fg) ≤ ys.length ∧ Box W (w.heap.size + 1) #[.int .i64 x] 3 ∧ Below w.heap.size w W)) (fun _ _ _ => False) (pre ++ [⟨(d, .node k' n' s' ts', .agg #[.int .i64 k', .int .i64 n', .string s', .slice a' ts'.length c']), hT', hd'⟩]) W .normal a0 W := fun h a0 => ⟨KeepsFrom.refl _ _, KT.refl _ _, by rw [Hm.out, h, Hmm.out]; simpa using b1, by rw [Hm.out, h, Hmm.out]; simp; omega, b2, hB⟩
      by_cases hk : k' = 1
      · by_cases hn : n' = x
        · subst hk hn
          have hv : isV n' (d, .node 1 n' s' ts') = true := by simp [isV, Tr.kind, Tr.num]
          have HV := Lib.hid hv
          clear hv fin0
          gi_wp2_with fail
          refine ⟨(KeepsOthers.setCell _ _ _).from _, (KT.refl _ _).setBx b1 (by decide) (by omega) 0 _, ?_, ?_, b2.other (by omega) 0 _, hB.setCell (p := ⟨w1.heap.size, 0, none⟩) (by simp; omega) _⟩
          · rw [Hm.out, HV.out, Hmm.out]
            exact b1.set 0 _
          · rw [Hm.out, HV.out, Hmm.out]; simp; omega
        · have hn' : (n' == x) = false := by simpa using hn
          have Hf := Lib.hid (fin0 (by simp [isV, Tr.kind, Tr.num, hn]))
          subst hk
          clear hn fin0
          gi_wp2_with fail
          exact Hf.out _
      · have hk' : (k' == 1) = false := by simpa using hk
        have Hf := Lib.hid (fin0 (by simp [isV, Tr.kind, hk]))
        clear hk fin0
        gi_wp2_with fail
        exact Hf.out _
    · rintro D xs W hDle hxs ⟨b1, hle, b2, hB⟩ hK
      have e2 : tmsP x (xs.map Nd.fg) = tmsT x (.node k nn s ts) := by rw [hxs]; rfl
      rw [e2] at b1
      have HT2 : Hid ((if isB (.node k nn s ts) then (tmsT x (.node k nn s ts) : Int) else 0) = tmsT x (.node k nn s ts) ∧ errI (isB (.node k nn s ts)) = 0) := by rw [Hid, hbT.out]; exact ⟨rfl, rfl⟩
      clear e2 hxs hle
      have c1 := b1.cell 0
      simp only [List.getElem?_toArray, List.getElem?_cons_zero] at c1
      gi_wp2_with fail
      refine ⟨by simp, .inl ⟨_, _, rfl, run_takeDeferred hK, ?_⟩⟩
      refine ⟨.tuple #[.int .i64 (tmsT x (.node k nn s ts)), .int .i64 0], by simp [results, Tryz.results10, go_sem], ?_, hB.trans (belowK_b (w := w) (Nat.le_refl _) W D _ (.deferred none) (by simp at hDle; omega) hK rfl rfl)⟩
      rw [HT2.out.1, HT2.out.2]

set_option maxRecDepth 100000 in
set_option maxHeartbeats 2000000 in
theorem ground_any (T : Tr) (v : Value) (w : World) (hT : IsT w.heap.size w T v) (hdp : T.deep ≤ 999999999) :
    Calls Tryz.prog 13 #[v] w (GroundPost T w) := by
  refine (callsIn_wide (n := 9)).1 ?_
  generalize hF : Fence.wide = F
  have hd : F.depth = none := by subst hF; rfl
  have hf : ∀ f, F.fn f := fun f => by subst hF; trivial
  have hro : F.round = none := by subst hF; rfl
  cases hTc : T with
  | node k nn s ts =>
  subst hTc
  have hT' := hT
  obtain ⟨a, c, rfl, _⟩ := hT'.open
  clear hT'
  have H := Lib.hid hT
  clear hT
  have bt : Box ((((w.alloc (.cells #[.int .i64 k, .int .i64 nn, .string s, .slice a ts.length c] 24)).alloc (.cells #[.bool false] 4)).alloc (.cells #[.int .i64 0] 27)).alloc (.cells #[.int .i64 k, .int .i64 nn, .string s, .slice a ts.length c] 24)) (w.heap.size) #[.int .i64 k, .int .i64 nn, .string s, .slice a ts.length c] 24 := (((Box.at rfl).alloc _).alloc _).alloc _
  have bg : Box ((((w.alloc (.cells #[.int .i64 k, .int .i64 nn, .string s, .slice a ts.length c] 24)).alloc (.cells #[.bool false] 4)).alloc (.cells #[.int .i64 0] 27)).alloc (.cells #[.int .i64 k, .int .i64 nn, .string s, .slice a ts.length c] 24)) (w.heap.size + 1) #[.bool false] 4 := ((Box.at (by simp)).alloc _).alloc _
  have be : Box ((((w.alloc (.cells #[.int .i64 k, .int .i64 nn, .string s, .slice a ts.length c] 24)).alloc (.cells #[.bool false] 4)).alloc (.cells #[.int .i64 0] 27)).alloc (.cells #[.int .i64 k, .int .i64 nn, .string s, .slice a ts.length c] 24)) (w.heap.size + 1 + 1) #[.int .i64 0] 27 := (Box.at (by simp)).alloc _
  have bz : Box ((((w.alloc (.cells #[.int .i64 k, .int .i64 nn, .string s, .slice a ts.length c] 24)).alloc (.cells #[.bool false] 4)).alloc (.cells #[.int .i64 0] 27)).alloc (.cells #[.int .i64 k, .int .i64 nn, .string s, .slice a ts.length c] 24)) (w.heap.size + 1 + 1 + 1) #[.int .i64 k, .int .i64 nn, .string s, .slice a ts.length c] 24 := Box.at (by simp)
  have hB0 := (((below_a1 (Nat.le_refl w.heap.size) (.cells #[.int .i64 k, .int .i64 nn, .string s, .slice a ts.length c] 24)).alloc (by simp) (.cells #[.bool false] 4)).alloc (by simp; omega) (.cells #[.int .i64 0] 27)).alloc (by simp; omega) (.cells #[.int .i64 k, .int .i64 nn, .string s, .slice a ts.length c] 24)
  refine callsIn_of_wp_marks Tryz.func13 rfl (hf _) ?_ hro
  simp only [Tryz.ntmps13, List.size_toArray, List.length_cons, List.length_nil, Nat.reduceAdd, Nat.reduceSub, Array.replicate_succ, Array.replicate_zero, List.push_toArray, List.append_toArray, List.nil_append, List.cons_append]
  gi_wp2_with fail
  refine CallsIn.mono (callsIn_of_calls hF (checkEach_any [.node k nn s ts] (some ⟨w.heap.size + 1 + 1 + 1, 0, none⟩) 1 _ (by unfold maxLen; simp) ?_ (by intro t ht; simp at ht; rcases ht with rfl; assumption))) ?_
  · exact IsL.cons (by simp; try omega) (bz.cell 0) (bz.cell 1) (bz.cell 2) (bz.cell 3) (H.out.up hB0 hB0.size) IsL.nil
  rintro e w1 ⟨rfl, hB1⟩
  replace bt := Box.keep hB1 bt
  replace bg := Box.keep hB1 bg
  replace be := Box.keep hB1 be
  have hB2 := hB0.trans (hB1.mono hB0.size)
  have hs1 := hB1.size
  simp only [World.size_alloc] at hs1
  generalize hEQ : [Tr.node k nn s ts].all isB = bT
  have hbT : Hid (isB (.node k nn s ts) = bT) := by rw [Hid, ← hEQ]; simp
  clear hB1 bz hB0 hEQ
  have qt0 := bt.cell 0
  have qt1 := bt.cell 1
  have qt2 := bt.cell 2
  have qt3 := bt.cell 3
  have lt := bt.lt
  simp only [List.getElem?_toArray, List.getElem?_cons_succ, List.getElem?_cons_zero] at qt0 qt1 qt2 qt3
  cases bT with
  | false =>
    rw [show errI false = 3 from rfl]
    have u0 := bg.cell 0
    have u1 := be.cell 0
    have r0 := bg.frozen 0
    have r1 := be.frozen 0
    have lg := bg.lt
    have le := be.lt
    simp only [List.getElem?_toArray, List.getElem?_cons_zero] at u0 u1
    gi_wp2_with fail
    have z3 := (bg.set 0 (.bool false)).other (B' := w.heap.size + 1 + 1) (by omega) 0 (.int .i64 3)
    have z4 := (be.other (B' := w.heap.size + 1) (by omega) 0 (.bool false)).set 0 (.int .i64 3)
    have zB := (hB2.setCell (p := ⟨w.heap.size + 1, 0, none⟩) (by simp) (.bool false)).setCell (p := ⟨w.heap.size + 1 + 1, 0, none⟩) (by simp; omega) (.int .i64 3)
    have y0 := z3.cell 0
    have y1 := z4.cell 0
    clear z3 z4 u0 u1 r0 r1
    generalize ((w1.setCell ⟨w.heap.size + 1, 0, none⟩ (.bool false)).setCell ⟨w.heap.size + 1 + 1, 0, none⟩ (.int .i64 3)) = FW at *
    refine ⟨.tuple #[.bool false, .int .i64 3], ?_, ?_, zB⟩
    · simp at y0 y1
      simp [results, Tryz.results13, go_sem, y0, y1]
    · rw [hbT.out]; rfl
  | true =>
    rw [show errI true = 0 from rfl]
    have hz := isB_size hbT.out
    gi_wp2_with fail
    refine CallsIn.mono (callsIn_of_calls hF (nodes_any _ k nn s a ts.length c rfl _)) ?_
    rintro e w' ⟨rfl, rfl⟩
    gi_wp2_with fail
    have hB3 := hB2.trans (below_a1 hB2.size (.cells #[.int .i64 k, .int .i64 nn, .string s, .slice a ts.length c] 24))
    have bg3 := bg.alloc (.cells #[.int .i64 k, .int .i64 nn, .string s, .slice a ts.length c] 24)
    have be3 := be.alloc (.cells #[.int .i64 k, .int .i64 nn, .string s, .slice a ts.length c] 24)
    refine range_nodesH hd hf hro (by omega) w1.heap.size w.heap.size (.node k nn s ts) (.agg #[.int .i64 k, .int .i64 nn, .string s, .slice a ts.length c]) w rfl (block_at rfl) hB3 hB3.size H.out hdp rfl
      (fun ys W => grdP (ys.map Nd.fg) = true ∧ (Box W (w.heap.size + 1) #[.bool false] 4 ∧ (Box W (w.heap.size + 1 + 1) #[.int .i64 0] 27 ∧ Below w.heap.size w W)))
      (fun c ys W => c = .ret ∧ (grdP (ys.map Nd.fg) = false ∧ (Box W (w.heap.size + 1) #[.bool false] 4 ∧ (Box W (w.heap.size + 1 + 1) #[.int .i64 0] 27 ∧ Below w.heap.size w W))))
      (OwnFrom.and (fun _ _ _ _ h _ _ => h) (((Box.own _ _ (fun _ => _)).from _).and (((Box.own _ _ (fun _ => _)).from _).and (ownFrom_below (Nat.le_refl _) (by simp; omega)))))
      (fun c => OwnFrom.and (fun _ _ _ _ h _ _ => h) (OwnFrom.and (fun _ _ _ _ h _ _ => h) (((Box.own _ _ (fun _ => _)).from _).and (((Box.own _ _ (fun _ => _)).from _).and (ownFrom_below (Nat.le_refl _) (by simp; omega))))))
      ⟨rfl, bg3, be3, hB3⟩ ?_
    clear bt bg be bg3 be3 hB3 qt0 qt1 qt2 qt3
    apply Exists.intro
    apply And.intro
    · rintro l pre ⟨⟨d, T', v'⟩, hT', hd'⟩ W K hI hK
      cases T' with
      | node k' n' s' ts' =>
      obtain ⟨a', c', rfl, _⟩ := hT'.open
      simp only [Nd.encs]
      gi_wp2_with fail
      have hblk := World.alloc_heap_new W (.cells #[.int .i64 k', .int .i64 n', .string s', .slice a' ts'.length c'] 24)
      obtain ⟨hall, b1, b2, hB⟩ := hI
      have hKT := (KT.refl w.heap.size W).alloc hB.size (.cells #[.int .i64 k', .int .i64 n', .string s', .slice a' ts'.length c'] 24)
      have hI' := And.intro hall (And.intro (b1.alloc (.cells #[.int .i64 k', .int .i64 n', .string s', .slice a' ts'.length c'] 24)) (And.intro (b2.alloc (.cells #[.int .i64 k', .int .i64 n', .string s', .slice a' ts'.length c'] 24)) (hB.alloc hB.size (.cells #[.int .i64 k', .int .i64 n', .string s', .slice a' ts'.length c'] 24))))
      have hKF := (KeepsOthers.alloc W (.cells #[.int .i64 k', .int .i64 n', .string s', .slice a' ts'.length c'] 24)).from
      replace hK := fun Bx W' => hK Bx W'
      dsimp only [Value.cells] at hK
      generalize W.alloc (.cells #[.int .i64 k', .int .i64 n', .string s', .slice a' ts'.length c'] 24) = W' at *
      generalize W.heap.size = Bx at *
      replace hK := hK Bx W' (hKF _) hKT hI' hblk
      generalize Value.agg #[.int .i64 k', .int .i64 n', .string s', .slice a' ts'.length c'] = v' at *
      exact hK
    refine ⟨?_, ?_, ?_⟩
    · rintro l pre ⟨⟨d, T', v'⟩, hT', hd'⟩ Bx W ⟨hall, b1, b2, hB⟩ hx hpre
      cases T' with
      | node k' n' s' ts' =>
      obtain ⟨a', c', rfl, _⟩ := hT'.open
      dsimp only [Value.cells] at hx
      have hm : grdP (List.map Nd.fg (pre ++ [⟨(d, .node k' n' s' ts', _), hT', hd'⟩])) = !decide (k' = 1) := by rw [List.map_append]; refine (grdP_snoc _ _).trans ?_; rw [hall]; rfl
      have Hm := Lib.hid hm
      have hxB : Box W Bx #[.int .i64 k', .int .i64 n', .string s', .slice a' ts'.length c'] 24 := hx
      have x0 := hxB.cell 0
      simp only [List.getElem?_toArray, List.getElem?_cons_zero] at x0
      have u0 := b1.cell 0
      have u1 := b2.cell 0
      have r0 := b1.frozen 0
      have r1 := b2.frozen 0
      have lg := b1.lt
      have le := b2.lt
      simp only [List.getElem?_toArray, List.getElem?_cons_zero] at u0 u1
      clear hx hm hxB hall
      by_cases hk : k' = 1
      · subst hk
        gi_wp2_with fail
        refine ⟨((KeepsOthers.setCell _ ⟨w.heap.size + 1, 0, none⟩ _).trans (KeepsOthers.setCell _ ⟨w.heap.size + 1 + 1, 0, none⟩ _)).from _, rfl, Hm.out, (b1.set 0 (.bool false)).other (B' := w.heap.size + 1 + 1) (by omega) 0 (.int .i64 0), (b2.other (B' := w.heap.size + 1) (by omega) 0 (.bool false)).set 0 (.int .i64 0), (hB.setCell (p := ⟨w.heap.size + 1, 0, none⟩) (by simp) (.bool false)).setCell (p := ⟨w.heap.size + 1 + 1, 0, none⟩) (by simp; omega) (.int .i64 0)⟩
      · have hk' : (k' == 1) = false := by simpa using hk
        have hk2 : Hid ((!decide (k' = 1)) = true) := by simpa [Hid] using hk
        clear hk
        gi_wp2_with fail
        exact ⟨KeepsFrom.refl _ _, KT.refl _ _, Hm.out.trans hk2.out, b1, b2, hB⟩
    · rintro D xs W hDle hxs ⟨hall, b1, b2, hB⟩ hK
      have HG : Hid ((isB (.node k nn s ts) && grdB (.node k nn s ts)) = true ∧ errI (isB (.node k nn s ts)) = 0) := by rw [Hid, hbT.out, show grdB (.node k nn s ts) = grdP (preT 1 (.node k nn s ts)) from rfl, ← hxs, hall]; exact ⟨rfl, rfl⟩
      clear hxs hall
      have u0 := b1.cell 0
      have u1 := b2.cell 0
      have r0 := b1.frozen 0
      have r1 := b2.frozen 0
      have lg := b1.lt
      have le := b2.lt
      simp only [List.getElem?_toArray, List.getElem?_cons_zero] at u0 u1
      gi_wp2_with fail
      refine ⟨by simp, .inl ⟨_, _, rfl, run_takeDeferred (((KeepsOthers.setCell _ ⟨w.heap.size + 1, 0, none⟩ _).trans (KeepsOthers.setCell _ ⟨w.heap.size + 1 + 1, 0, none⟩ _)).same D _ hK rfl), ?_⟩⟩
      have nK := And.intro (b1.ne_deferred hK) (b2.ne_deferred hK)
      have z3 := Box.put ((b1.set 0 (.bool true)).other (B' := w.heap.size + 1 + 1) (by omega) 0 (.int .i64 0)) nK.1 (.deferred none)
      have z4 := Box.put ((b2.other (B' := w.heap.size + 1) (by omega) 0 (.bool true)).set 0 (.int .i64 0)) nK.2 (.deferred none)
      have zB := (hB.setCell (p := ⟨w.heap.size + 1, 0, none⟩) (by simp) (.bool true)).setCell (p := ⟨w.heap.size + 1 + 1, 0, none⟩) (by simp; omega) (.int .i64 0)
      have zC := zB.trans (belowK_b (w := w) (Nat.le_refl _) _ D _ (.deferred none) (by simp at hDle; omega) (((KeepsOthers.setCell _ ⟨w.heap.size + 1, 0, none⟩ _).trans (KeepsOthers.setCell _ ⟨w.heap.size + 1 + 1, 0, none⟩ _)).same D _ hK rfl) rfl rfl)
      have y0 := z3.cell 0
      have y1 := z4.cell 0
      clear zB z3 z4
      generalize World.putObj _ D (.deferred none) = FW at *
      refine ⟨.tuple #[.bool true, .int .i64 0], ?_, ?_, zC⟩
      · simp at y0 y1
        simp [results, Tryz.results13, go_sem, y0, y1]
      · rw [HG.out.1, HG.out.2]
    · rintro D c pre W hDle hpre ⟨rfl, hall, b1, b2, hB⟩ hK
      have HG : Hid ((isB (.node k nn s ts) && grdB (.node k nn s ts)) = false ∧ errI (isB (.node k nn s ts)) = 0) := by rw [Hid, hbT.out, show grdB (.node k nn s ts) = grdP (preT 1 (.node k nn s ts)) from rfl, grdP_pre hpre hall]; exact ⟨rfl, rfl⟩
      clear hpre hall
      have u0 := b1.cell 0
      have u1 := b2.cell 0
      have r0 := b1.frozen 0
      have r1 := b2.frozen 0
      have lg := b1.lt
      have le := b2.lt
      simp only [List.getElem?_toArray, List.getElem?_cons_zero] at u0 u1
      gi_wp2_with fail
      refine ⟨by simp, .inl ⟨_, _, rfl, run_takeDeferred hK, ?_⟩⟩
      have z3 := Box.put b1 (b1.ne_deferred hK) (.deferred none)
      have z4 := Box.put b2 (b2.ne_deferred hK) (.deferred none)
      have zC := hB.trans (belowK_b (w := w) (Nat.le_refl _) W D _ (.deferred none) (by simp at hDle; omega) hK rfl rfl)
      have y0 := z3.cell 0
      have y1 := z4.cell 0
      clear z3 z4
      generalize World.putObj _ D (.deferred none) = FW at *
      refine ⟨.tuple #[.bool false, .int .i64 0], ?_, ?_, zC⟩
      · simp at y0 y1
        simp [results, Tryz.results13, go_sem, y0, y1]
      · rw [HG.out.1, HG.out.2]

end Go.Proofs.YtdigiaigbcfccaaGreatDoor
