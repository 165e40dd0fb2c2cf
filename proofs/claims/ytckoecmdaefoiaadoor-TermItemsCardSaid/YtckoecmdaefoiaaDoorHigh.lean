import Derived.Test.YtckoecmdaefoiaaDoorMatch
namespace Go.Proofs.YtckoecmdaefoiaaDoor
open Go.RowKit Go Go.Shelf

attribute [local go_sem] Oper.semAt_some

/-- The greatest number of a variable; -1, if there is none. -/
def hiP (l : List (Int × Tr)) : Int := l.foldl (fun m x => if x.2.kind = 1 then max m x.2.num else m) (-1)
theorem hiP_snoc (l : List (Int × Tr)) (x : Int × Tr) : hiP (l ++ [x]) = if x.2.kind = 1 then max (hiP l) x.2.num else hiP l := by simp [hiP]
theorem hi_le : ∀ (l : List (Int × Tr)) (m : Int), m ≤ l.foldl (fun m x => if x.2.kind = 1 then max m x.2.num else m) m
  | [], m => by simp
  | x :: xs, m => by
    simp only [List.foldl_cons]
    have := hi_le xs (if x.2.kind = 1 then max m x.2.num else m)
    split at this <;> simp_all <;> omega
theorem hi_mem : ∀ (l : List (Int × Tr)) (m : Int) (x : Int × Tr), x ∈ l → x.2.kind = 1 → x.2.num ≤ l.foldl (fun m x => if x.2.kind = 1 then max m x.2.num else m) m
  | y :: ys, m, x, h, hk => by
    simp only [List.foldl_cons]
    rcases List.mem_cons.1 h with rfl | h
    · have := hi_le ys (if x.2.kind = 1 then max m x.2.num else m)
      rw [if_pos hk] at this ⊢
      omega
    · exact hi_mem ys _ x h hk
theorem hi_bound : ∀ (l : List (Int × Tr)) (m N : Int), m ≤ N → (∀ x, x ∈ l → x.2.kind = 1 → x.2.num ≤ N) → l.foldl (fun m x => if x.2.kind = 1 then max m x.2.num else m) m ≤ N
  | [], m, N, h, _ => by simpa using h
  | x :: xs, m, N, h, hx => by
    simp only [List.foldl_cons]
    refine hi_bound xs _ N ?_ (fun y hy => hx y (List.mem_cons_of_mem _ hy))
    split
    · have := hx x (by simp) (by assumption); omega
    · exact h
def hiT (T : Tr) : Int := hiP (preT 1 T)
theorem hiT_lo (T : Tr) : -1 ≤ hiT T := hi_le _ _
theorem hiT_le {T : Tr} (h : isB T = true) : hiT T ≤ 99999 := by
  simp only [isB, Bool.and_eq_true] at h
  refine hi_bound _ _ _ (by omega) fun x hx hk => ?_
  have := List.all_eq_true.1 h.2 x hx
  cases hT : x.2 with
  | node k n s l =>
    rw [hT] at this hk
    simp [Tr.kind] at hk
    simp [Tr.okNode, nodeB, hk] at this
    simp [Tr.num]
    omega
mutual
theorem varsIn_of {N : Nat} : ∀ (T : Tr) (d : Int), posT T → (∀ x, x ∈ preT d T → x.2.kind = 1 → x.2.num < N) → varsIn N T
  | .node k n s l, d, hp, h => by
    unfold posT at hp
    unfold varsIn
    refine ⟨fun hk => ⟨hp.1 hk, h (d, .node k n s l) (by simp [preT]) hk⟩, varsInL_of l (d + 1) hp.2 (fun x hx => h x (by simp [preT, hx]))⟩
theorem varsInL_of {N : Nat} : ∀ (l : List Tr) (d : Int), posL l → (∀ x, x ∈ preL d l → x.2.kind = 1 → x.2.num < N) → varsInL N l
  | [], _, _, _ => by unfold varsInL; trivial
  | t :: ts, d, hp, h => by
    unfold posL at hp
    unfold varsInL
    exact ⟨varsIn_of t d hp.1 (fun x hx => h x (by simp [preL, hx])), varsInL_of ts d hp.2 (fun x hx => h x (by simp [preL, hx]))⟩
end
theorem hiT_vars {T : Tr} (h : posT T) {N : Nat} (hN : hiT T < N) : varsIn N T :=
  varsIn_of T 1 h fun x hx hk => by
    have := hi_mem (preT 1 T) (-1) x hx hk
    unfold hiT hiP at hN
    omega

set_option maxRecDepth 100000 in
set_option maxHeartbeats 2000000 in
theorem highest_any (T : Tr) (v : Value) (w : World) (hT : IsT w.heap.size w T v) (hdp : T.deep ≤ 999999999) :
    Calls Tryd.prog 106 #[v] w fun e W' => e = .returned (.int .i64 (hiT T)) ∧ Below w.heap.size w W' := by
  refine (callsIn_wide (n := 9)).1 ?_
  generalize hF : Fence.wide = F
  have hd : F.depth = none := by subst hF; rfl
  have hf : ∀ f, F.fn f := fun f => by subst hF; trivial
  have hro : F.round = none := by subst hF; rfl
  cases hTc : T with
  | node k nn s ts =>
  subst hTc
  have hT' := hT
  obtain ⟨a, c, rfl, _⟩ := hT'.open
  refine callsIn_of_wp_marks Tryd.func106 rfl (hf _) ?_ hro
  simp only [Tryd.ntmps106, List.size_toArray, List.length_cons, List.length_nil, Nat.reduceAdd, Nat.reduceSub, Array.replicate_succ, Array.replicate_zero, List.push_toArray, List.append_toArray, List.nil_append, List.cons_append]
  gi_wp2_with fail
  refine (CallsIn.mono (callsIn_of_calls hF (nodes_any _ k nn s a ts.length c rfl _)) ?_)
  rintro e w' ⟨rfl, rfl⟩
  gi_wp2_with fail
  refine range_nodesH hd hf hro (by omega) (w.heap.size + 1 + 1) w.heap.size (.node k nn s ts) (.agg #[.int .i64 k, .int .i64 nn, .string s, .slice a ts.length c]) w rfl (block_at (by simp)) (below_a3 (Nat.le_refl _) _ _ _) (by simp; omega) hT hdp rfl
    (fun ys W => Box W (w.heap.size + 1) #[.int .i64 (hiP (ys.map Nd.fg))] 3 ∧ Below w.heap.size w W)
    (fun _ _ _ => False)
    (((Box.own _ _ _).from _).and (ownFrom_below (Nat.le_refl _) (by simp; omega)))
    (fun _ _ _ _ _ hs _ _ => hs)
    ⟨(Box.at (by simp)).alloc _, below_a3 (Nat.le_refl _) _ _ _⟩ ?_
  apply Exists.intro
  apply And.intro
  · rintro l pre ⟨⟨d, T', v'⟩, hT', hd'⟩ W K hI hK
    cases T' with
    | node k' n' s' ts' =>
    obtain ⟨a', c', rfl, _⟩ := hT'.open
    simp only [Nd.encs]
    gi_wp2_with fail
    have hblk := World.alloc_heap_new W (.cells #[.int .i64 k', .int .i64 n', .string s', .slice a' ts'.length c'] 25)
    obtain ⟨b1, hB⟩ := hI
    have hKT := (KT.refl w.heap.size W).alloc hB.size (.cells #[.int .i64 k', .int .i64 n', .string s', .slice a' ts'.length c'] 25)
    have hI' := And.intro (b1.alloc (.cells #[.int .i64 k', .int .i64 n', .string s', .slice a' ts'.length c'] 25)) (hB.alloc hB.size (.cells #[.int .i64 k', .int .i64 n', .string s', .slice a' ts'.length c'] 25))
    have hKF := (KeepsOthers.alloc W (.cells #[.int .i64 k', .int .i64 n', .string s', .slice a' ts'.length c'] 25)).from
    replace hK := fun Bx W' => hK Bx W'
    dsimp only [Value.cells] at hK
    generalize W.alloc (.cells #[.int .i64 k', .int .i64 n', .string s', .slice a' ts'.length c'] 25) = W' at *
    generalize W.heap.size = Bx at *
    replace hK := hK Bx W' (hKF _) hKT hI' hblk
    generalize Value.agg #[.int .i64 k', .int .i64 n', .string s', .slice a' ts'.length c'] = v' at *
    exact hK
  refine ⟨?_, ?_, ?_⟩
  · rintro l pre ⟨⟨d, T', v'⟩, hT', hd'⟩ Bx W ⟨b1, hB⟩ hx hpre
    cases T' with
    | node k' n' s' ts' =>
    obtain ⟨a', c', rfl, _⟩ := hT'.open
    dsimp only [Value.cells] at hx
    have hm : hiP (List.map Nd.fg (pre ++ [⟨(d, .node k' n' s' ts', _), hT', hd'⟩])) = if k' = 1 then max (hiP (List.map Nd.fg pre)) n' else hiP (List.map Nd.fg pre) := by rw [List.map_append]; exact hiP_snoc _ _
    have Hm := Lib.hid hm
    have hxB : Box W Bx #[.int .i64 k', .int .i64 n', .string s', .slice a' ts'.length c'] 25 := hx
    have x0 := hxB.cell 0
    have x1 := hxB.cell 1
    have c0 := b1.cell 0
    have f0 := b1.frozen 0
    simp only [List.getElem?_toArray, List.getElem?_cons_succ, List.getElem?_cons_zero] at x0 x1 c0
    clear hx hm
    by_cases hk : k' = 1
    · rw [hk] at x0
      have Hk := Lib.hid hk
      clear hk
      gi_wp2_with fail
      all_goals
        refine ⟨(KeepsOthers.setCell _ _ _).from _, (KT.refl _ _).setBx b1 (by decide) (by omega) 0 _, ?_, hB.setCell (p := ⟨w.heap.size + 1, 0, none⟩) (by simp) _⟩
        rw [Hm.out, if_pos Hk.out]
        first
          | (rw [show max (hiP (List.map Nd.fg pre)) n' = n' from by omega]; exact b1.set 0 _)
          | (rw [show max (hiP (List.map Nd.fg pre)) n' = hiP (List.map Nd.fg pre) from by omega]; exact b1.set 0 _)
    · have hk' : (k' == 1) = false := by simpa using hk
      have Hk := Lib.hid hk
      clear hk
      gi_wp2_with fail
      refine ⟨KeepsFrom.refl _ _, KT.refl _ _, ?_, hB⟩
      rw [Hm.out, if_neg Hk.out]
      exact b1
  · rintro D xs W hDle hxs ⟨b1, hB⟩ hK
    have e2 : hiP (xs.map Nd.fg) = hiT (.node k nn s ts) := by rw [hxs]; rfl
    rw [e2] at b1
    clear e2 hxs
    have c1 := b1.cell 0
    simp only [List.getElem?_toArray, List.getElem?_cons_zero] at c1
    gi_wp2_with fail
    refine ⟨by simp, .inl ⟨_, _, rfl, run_takeDeferred hK, ?_⟩⟩
    exact ⟨_, results_tmp rfl _ _ _, rfl, hB.trans (belowK_b (w := w) (Nat.le_refl _) W D _ _ (by simp at hDle; omega) hK rfl rfl)⟩
  · rintro D c pre W _ _ h _
    exact h.elim
end Go.Proofs.YtckoecmdaefoiaaDoor
