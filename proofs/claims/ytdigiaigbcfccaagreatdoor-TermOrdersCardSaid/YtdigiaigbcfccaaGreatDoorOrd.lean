import Derived.Test.YtdigiaigbcfccaaGreatDoorCheck
import Derived.Test.YtdigiaigbcfccaaGreatDoorShelf
namespace Go.Proofs.YtdigiaigbcfccaaGreatDoor
open Go.RowKit Go

attribute [local go_sem] monoUpon Yld.says

/-- The first one that is not 0. -/
def orL : List Int → Int
  | [] => 0
  | x :: xs => if x = 0 then orL xs else x
theorem orL_drop {xs : List Int} {k : Nat} (h : k < xs.length) : orL (xs.drop k) = if xs[k] = 0 then orL (xs.drop (k + 1)) else xs[k] := by
  rw [List.drop_eq_getElem_cons h]; rfl

def topO (k n : Int) (s : ByteArray) (len : Nat) (k' n' : Int) (s' : ByteArray) (len' : Nat) : Int :=
  orL [Lib.compareInt k k', Lib.compareInt len len', Lib.compareInt n n', Lib.compareBytes s.data.toList s'.data.toList]
mutual
/-- The order of two trees. -/
def ordT : Tr → Tr → Int
  | .node k n s l, .node k' n' s' l' => if topO k n s l.length k' n' s' l'.length = 0 then ordL l l' else topO k n s l.length k' n' s' l'.length
def ordL : List Tr → List Tr → Int
  | [], [] => 0
  | [], _ :: _ => -1
  | _ :: _, [] => 1
  | t :: ts, u :: us => if ordT t u = 0 then ordL ts us else ordT t u
end

set_option maxHeartbeats 400000 in
theorem or_any (xs : List Int) (b off c : Nat) (w : World) (hm : xs.length ≤ maxLen) (hc : ∀ k, k < xs.length → w.cell? ⟨b, off + k, none⟩ = some (.int .i64 (xs[k]?.getD 0))) :
    Calls Tryz.prog 61 #[.slice (some ⟨b, off, none⟩) xs.length c] w fun e w' => e = .returned (.int .i64 (orL xs)) ∧ w' = w := by
  unfold maxLen at hm
  have HC := Lib.hid hc
  clear hc
  go_enter Tryz.func61, Tryz.ntmps61
  go_wp2_with fail
  go_loop [8] (fun i => ∃ k : Nat, k ≤ xs.length ∧ i = .int .i64 k ∧ orL (xs.drop k) = orL xs) (fun i => xs.length - (intOf i).toNat)
  case atStart => exact ⟨0, Nat.zero_le _, rfl, rfl⟩
  case round =>
    obtain ⟨k, hk, rfl, hor⟩ := hrel
    by_cases hlt : k < xs.length
    · have hck := HC.out k hlt
      rw [List.getElem?_eq_getElem hlt, Option.getD_some] at hck
      by_cases h0 : xs[k] = 0
      · have Hn : Hid (orL (xs.drop (k + 1)) = orL xs) := by rw [← hor, orL_drop hlt, if_pos h0]; rfl
        rw [h0] at hck
        clear h0 hor
        go_wp2_with fail
        go_round
        case rel => exact ⟨k + 1, by omega, by go_num, Hn.out⟩
        case measure => simp [intOf]; omega
      · have Hn : Hid (orL xs = xs[k]) := by rw [← hor, orL_drop hlt, if_neg h0]; rfl
        have hne : (xs[k] != 0) = true := by simpa using h0
        obtain ⟨x, hx⟩ : ∃ x, xs[k] = x := ⟨_, rfl⟩
        rw [hx] at hck hne Hn
        clear h0 hx hor
        go_wp2_with fail
        go_ret
        exact ⟨retI Hn.out, rfl⟩
    · have Hn : Hid (orL xs = 0) := by rw [← hor, List.drop_eq_nil_of_le (by omega)]; rfl
      clear hor
      go_wp2_with fail
      go_ret
      exact ⟨retI Hn.out, rfl⟩

theorem ordL_drop {l l' : List Tr} {k : Nat} (h : k < l.length) (h' : k < l'.length) : ordL (l.drop k) (l'.drop k) = if ordT l[k] l'[k] = 0 then ordL (l.drop (k + 1)) (l'.drop (k + 1)) else ordT l[k] l'[k] := by
  rw [List.drop_eq_getElem_cons h, List.drop_eq_getElem_cons h', ordL]
theorem ordL_more {l l' : List Tr} {k : Nat} (h : k < l.length) (h' : l'.length ≤ k) : ordL (l.drop k) (l'.drop k) = 1 := by
  rw [List.drop_eq_getElem_cons h, List.drop_eq_nil_of_le h', ordL]
theorem ordL_end {l l' : List Tr} (h : l.length < l'.length) : ordL (l.drop l.length) (l'.drop l.length) = -1 := by
  rw [List.drop_eq_nil_of_le (Nat.le_refl _), List.drop_eq_getElem_cons h, ordL]
theorem ordL_done {l l' : List Tr} (h : l'.length ≤ l.length) : ordL (l.drop l.length) (l'.drop l.length) = 0 := by
  rw [List.drop_eq_nil_of_le (Nat.le_refl _), List.drop_eq_nil_of_le h, ordL]

set_option maxRecDepth 100000 in
set_option maxHeartbeats 1000000 in
theorem compareFunc_any (l l' : List Tr) (a a' : Option Addr) (c c' : Nat) (w : World) (hm : l.length ≤ maxLen) (hm' : l'.length ≤ maxLen)
    (hl : IsL w.heap.size w l a) (hl' : IsL w.heap.size w l' a')
    (hS : ∀ t, t ∈ l → ∀ (u : Tr) (v v' : Value) (W : World), IsT W.heap.size W t v → IsT W.heap.size W u v' →
      Calls Tryz.prog 33 #[v, v'] W fun e w' => e = .returned (.int .i64 (ordT t u)) ∧ Below W.heap.size W w') :
    Calls Tryz.prog 64 #[.slice a l.length c, .slice a' l'.length c', .func (.func 33) #[] #[]] w
      fun e w' => e = .returned (.int .i64 (ordL l l')) ∧ Below w.heap.size w w' := by
  unfold maxLen at hm hm'
  have HS := Lib.hid hS
  have HL := Lib.hid hl
  have HL' := Lib.hid hl'
  clear hS hl hl'
  have ha : l.length = 0 ∨ ∃ b off, a = some ⟨b, off, none⟩ ∧ b < w.heap.size := by
    by_cases h0 : 0 < l.length
    · exact .inr (HL.out.addr h0)
    · exact .inl (by omega)
  rcases ha with h0 | ⟨b, off, rfl, hb⟩
  · have e1 : l = [] := List.length_eq_zero_iff.1 h0
    subst e1
    clear h0
    by_cases h1 : 0 < l'.length
    · have Hn : Hid (ordL [] l' = -1) := by
        cases l' with
        | nil => simp at h1
        | cons t ts => simp [Hid, ordL]
      simp only [List.length_nil]
      go_enter Tryz.func64, Tryz.ntmps64
      go_wp2_with fail
      refine wp_loop_rounds 1 ?_
      rw [rounds_succ]
      go_wp2_with fail
      go_ret
      exact ⟨retI Hn.out, Below.refl _ _⟩
    · have e2 : l' = [] := List.length_eq_zero_iff.1 (by omega)
      subst e2
      have Hn : Hid (ordL [] [] = 0) := by simp [Hid, ordL]
      clear h1
      simp only [List.length_nil]
      go_enter Tryz.func64, Tryz.ntmps64
      go_wp2_with fail
      refine wp_loop_rounds 1 ?_
      rw [rounds_succ]
      go_wp2_with fail
      go_ret
      exact ⟨retI Hn.out, Below.refl _ _⟩
  · have ha' : l'.length = 0 ∨ ∃ b off, a' = some ⟨b, off, none⟩ ∧ b < w.heap.size := by
      by_cases h0 : 0 < l'.length
      · exact .inr (HL'.out.addr h0)
      · exact .inl (by omega)
    go_enter Tryz.func64, Tryz.ntmps64
    go_wp2_with fail
    go_loopw [13] (fun i wr => ∃ k : Nat, k ≤ l.length ∧ i = .int .i64 k ∧ ordL (l.drop k) (l'.drop k) = ordL l l' ∧ Below w.heap.size w wr) (fun i _ => l.length - (intOf i).toNat)
    case atStart => exact ⟨0, Nat.zero_le _, rfl, rfl, Below.refl _ _⟩
    case round =>
      obtain ⟨k, hk, rfl, hor, hB⟩ := hrel
      have Hor := Lib.hid hor
      clear hor
      by_cases hlt : k < l.length
      · obtain ⟨tk, tn, ts, tl, ta, tc, te, c0, c1, c2, c3, ht⟩ := (HL.out.below hB).node k hlt
        have Te := Lib.hid te
        clear te
        have hbw : b < wr.heap.size := by have := hB.size; omega
        by_cases hlt' : k < l'.length
        · rcases ha' with h0 | ⟨b', off', rfl, hb'⟩
          · omega
          obtain ⟨uk, un, us, ul, ua, uc, ue, d0, d1, d2, d3, hu⟩ := (HL'.out.below hB).node k hlt'
          have Ue := Lib.hid ue
          clear ue
          have hbw' : b' < wr.heap.size := by have := hB.size; omega
          go_wp2_with fail
          refine (HS.out _ (List.getElem_mem hlt) _ _ _ _ (ht.up (below_a2 hB.size _ _) (size_a2 hB.size _ _)) (hu.up (below_a2 hB.size _ _) (size_a2 hB.size _ _))).mono ?_
          rintro e w1 ⟨rfl, hB1⟩
          have hB2 := hB.trans ((below_a2 hB.size _ _).trans (hB1.mono (size_a2 hB.size _ _)))
          clear hB1
          by_cases h0 : ordT l[k] l'[k] = 0
          · have Hn : Hid (ordL (l.drop (k + 1)) (l'.drop (k + 1)) = ordL l l') := by unfold Hid; rw [← Hor.out, ordL_drop hlt hlt', if_pos h0]
            rw [h0]
            clear h0
            go_wp2_with fail
            go_roundw
            case rel => exact ⟨k + 1, hlt, by go_num, Hn.out, hB2⟩
            case measure => simp [intOf]; omega
          · have Hn : Hid (ordL l l' = ordT l[k] l'[k]) := by unfold Hid; rw [← Hor.out, ordL_drop hlt hlt', if_neg h0]
            have hne : (ordT l[k] l'[k] != 0) = true := by simpa using h0
            obtain ⟨x, hx⟩ : ∃ x, ordT l[k] l'[k] = x := ⟨_, rfl⟩
            rw [hx] at hne Hn ⊢
            clear h0 hx
            go_wp2_with fail
            go_ret
            exact ⟨retI Hn.out, hB2⟩
        · have Hn : Hid (ordL l l' = 1) := by unfold Hid; rw [← Hor.out, ordL_more hlt (by omega)]
          go_wp2_with fail
          go_ret
          exact ⟨retI Hn.out, hB.alloc hB.size _⟩
      · have hke : k = l.length := by omega
        by_cases hll : l.length < l'.length
        · have Hn : Hid (ordL l l' = -1) := by unfold Hid; rw [← Hor.out, hke, ordL_end hll]
          clear hke
          go_wp2_with fail
          go_ret
          exact ⟨retI Hn.out, hB⟩
        · have Hn : Hid (ordL l l' = 0) := by unfold Hid; rw [← Hor.out, hke, ordL_done (by omega)]
          clear hke
          go_wp2_with fail
          go_ret
          exact ⟨retI Hn.out, hB⟩

/-- A slice of ints of its own. -/
def IsI (xs : List Int) (v : Value) (W : World) : Prop := ∃ b, v = .slice (some ⟨b, 0, none⟩) xs.length xs.length ∧ W.heap[b]? = some (.cells (xs.map (Value.int .i64)).toArray 3 (0, 0))
theorem IsI.stable (xs : List Int) : (Yld.any (IsI xs)).stable := fun _ _ _ he ⟨b, h1, h2⟩ => ⟨b, h1, (Below.block he b (Array.getElem?_eq_some_iff.1 h2).1).trans h2⟩

set_option maxRecDepth 100000 in
set_option maxHeartbeats 1000000 in
theorem order_any (T : Tr) : ∀ (U : Tr) (v u : Value) (w : World), IsT w.heap.size w T v → IsT w.heap.size w U u →
    Calls Tryz.prog 33 #[v, u] w fun e w' => e = .returned (.int .i64 (ordT T U)) ∧ Below w.heap.size w w' := by
  induction T using Tr.ind with
  | h k n s l ih =>
    intro U v u w hv hu
    cases U with
    | node k' n' s' l' =>
    obtain ⟨a, c, rfl, _, _, _, hlc, hcm, hl⟩ := hv.open
    obtain ⟨a', c', rfl, _, _, _, hlc', hcm', hl'⟩ := hu.open
    have HI := Lib.hid ih
    have HL := Lib.hid hl
    have HL' := Lib.hid hl'
    clear ih hv hu hl hl'
    go_enter Tryz.func33, Tryz.ntmps33
    go_wp2_with fail
    apply wp_region_mono [.det _, .det _, .det _, .det _, .det _, .det _, .det _, .det _, .det _, .det _, .det _, .det _, .det _, .det _, .det _, .det _, .det _, .det _, .det _, .det _, .det _, .det _, .any (IsI [Lib.compareInt k k', Lib.compareInt l.length l'.length, Lib.compareInt n n', Lib.compareBytes s.data.toList s'.data.toList]), .det _, .det _] (by kernel_rfl) (by kernel_rfl)
    rotate_left
    · iterate 4 (
        refine wpM_step (fun K hK => ?_)
        go_simp
        apply And.intro
        · intro w' hC _
          have q1 := hC.old.1
          have hbs := hC.old.2.2
          clear hC
          go_simp
          exact ⟨Ext.refl _, rfl⟩
        refine nextM_det (hK _ _ ?_)
        clear hK K)
      refine wpM_step (fun K hK => ?_)
      go_simp
      apply And.intro
      · intro w' hC _
        go_simp
        refine ⟨Ext.refl _, (Tryz.cmp_Compare_int _ _ _).mono ?_⟩
        rintro e w1 ⟨rfl, rfl⟩
        exact ⟨rfl, Ext.refl _⟩
      refine nextM_det (hK _ _ ?_)
      clear hK K
      iterate 6 (
        refine wpM_step (fun K hK => ?_)
        go_simp
        apply And.intro
        · intro w' hC _
          have q1 := hC.old.1
          have hbs := hC.old.2.2
          clear hC
          go_simp
          exact ⟨Ext.refl _, rfl⟩
        refine nextM_det (hK _ _ ?_)
        clear hK K)
      refine wpM_step (fun K hK => ?_)
      go_simp
      apply And.intro
      · intro w' hC _
        go_simp
        refine ⟨Ext.refl _, (Tryz.cmp_Compare_int _ _ _).mono ?_⟩
        rintro e w1 ⟨rfl, rfl⟩
        exact ⟨rfl, Ext.refl _⟩
      refine nextM_det (hK _ _ ?_)
      clear hK K
      iterate 4 (
        refine wpM_step (fun K hK => ?_)
        go_simp
        apply And.intro
        · intro w' hC _
          have q1 := hC.old.1
          have hbs := hC.old.2.2
          clear hC
          go_simp
          exact ⟨Ext.refl _, rfl⟩
        refine nextM_det (hK _ _ ?_)
        clear hK K)
      refine wpM_step (fun K hK => ?_)
      go_simp
      apply And.intro
      · intro w' hC _
        go_simp
        refine ⟨Ext.refl _, (Tryz.cmp_Compare_int _ _ _).mono ?_⟩
        rintro e w1 ⟨rfl, rfl⟩
        exact ⟨rfl, Ext.refl _⟩
      refine nextM_det (hK _ _ ?_)
      clear hK K
      iterate 4 (
        refine wpM_step (fun K hK => ?_)
        go_simp
        apply And.intro
        · intro w' hC _
          have q1 := hC.old.1
          have hbs := hC.old.2.2
          clear hC
          go_simp
          exact ⟨Ext.refl _, rfl⟩
        refine nextM_det (hK _ _ ?_)
        clear hK K)
      refine wpM_step (fun K hK => ?_)
      go_simp
      apply And.intro
      · intro w' hC _
        go_simp
        refine ⟨Ext.refl _, (Tryz.strings_Compare _ _ _).mono ?_⟩
        rintro e w1 ⟨rfl, rfl⟩
        exact ⟨rfl, Ext.refl _⟩
      refine nextM_det (hK _ _ ?_)
      clear hK K
      refine wpM_step (fun K hK => ?_)
      go_simp
      apply And.intro
      · intro w' hC _
        go_simp
        refine ⟨below_a1 (Nat.le_refl _) _, _, rfl, ?_⟩
        exact block_at rfl
      refine nextM_any (fun x => hK _ _ ?_)
      clear hK K
      refine wpM_step (fun K hK => ?_)
      go_simp
      apply And.intro
      · intro w' hC hd
        obtain ⟨b, hx, hb⟩ : IsI [Lib.compareInt k k', Lib.compareInt l.length l'.length, Lib.compareInt n n', Lib.compareBytes s.data.toList s'.data.toList] x w' := hd ⟨22, .data⟩ (by simp) rfl x rfl
        subst hx
        go_simp
        refine ⟨Ext.refl _, (or_any [Lib.compareInt k k', Lib.compareInt l.length l'.length, Lib.compareInt n n', Lib.compareBytes s.data.toList s'.data.toList] b 0 _ _ (by unfold maxLen; simp) (fun j hj => ?_)).mono ?_⟩
        · rw [Nat.zero_add, box_cell hb]
          match j, hj with
          | 0, _ => rfl
          | 1, _ => rfl
          | 2, _ => rfl
          | 3, _ => rfl
        rintro e w1 ⟨rfl, rfl⟩
        exact ⟨rfl, Ext.refl _⟩
      refine nextM_det (hK _ _ ?_)
      clear hK K
      iterate 1 (
        refine wpM_step (fun K hK => ?_)
        go_simp
        apply And.intro
        · intro w' hC _
          have q1 := hC.old.1
          have hbs := hC.old.2.2
          clear hC
          go_simp
          exact ⟨Ext.refl _, rfl⟩
        refine nextM_det (hK _ _ ?_)
        clear hK K)
      refine wpM_nil ?_
      intro w1 hC1 _
      have hB2 := (below_a2 (Nat.le_refl w.heap.size) _ _).trans (Below.mono hC1 (size_a2 (Nat.le_refl w.heap.size) _ _))
      obtain ⟨q1, _, hsz⟩ := hC1.old
      simp only [World.size_alloc] at hsz q1
      have Htop : Hid (orL [Lib.compareInt k k', Lib.compareInt l.length l'.length, Lib.compareInt n n', Lib.compareBytes s.data.toList s'.data.toList] = topO k n s l.length k' n' s' l'.length) := rfl
      rw [Htop.out]
      clear hC1
      by_cases h0 : topO k n s l.length k' n' s' l'.length = 0
      · have Hn : Hid (ordT (.node k n s l) (.node k' n' s' l') = ordL l l') := by simp [Hid, ordT, h0]
        rw [h0]
        clear h0
        go_wp2_with fail
        refine (compareFunc_any l l' a a' c c' _ (Nat.le_trans hlc hcm) (Nat.le_trans hlc' hcm') (HL.out.up hB2 hB2.size) (HL'.out.up hB2 hB2.size) (fun t ht u v v' W h1 h2 => HI.out t ht u v v' W h1 h2)).mono ?_
        rintro e w2 ⟨rfl, hB3⟩
        clear q1
        go_wp2_with fail
        go_ret
        exact ⟨retI Hn.out, hB2.trans (hB3.mono hB2.size)⟩
      · have Hn : Hid (ordT (.node k n s l) (.node k' n' s' l') = topO k n s l.length k' n' s' l'.length) := by simp [Hid, ordT, h0]
        have hne : (topO k n s l.length k' n' s' l'.length != 0) = true := by simpa using h0
        obtain ⟨y, hy⟩ : ∃ y, topO k n s l.length k' n' s' l'.length = y := ⟨_, rfl⟩
        rw [hy] at hne Hn ⊢
        clear h0 hy q1 Htop
        go_wp2_with fail
        go_ret
        exact ⟨retI Hn.out, hB2⟩
    · intro y hy
      simp only [List.mem_cons, List.not_mem_nil, or_false] at hy
      rcases hy with rfl | rfl | rfl | rfl | rfl | rfl | rfl | rfl | rfl | rfl | rfl | rfl | rfl | rfl | rfl | rfl | rfl | rfl | rfl | rfl | rfl | rfl | rfl | rfl | rfl <;> first | trivial | exact IsI.stable _

set_option maxHeartbeats 1000000 in
theorem compare_any (T U : Tr) (v u : Value) (w : World) (hv : IsT w.heap.size w T v) (hu : IsT w.heap.size w U u) (hdT : T.deep ≤ 999999999) (hdU : U.deep ≤ 999999999) :
    Calls Tryz.prog 6 #[v, u] w fun e w' => e = .returned (.tuple #[.int .i64 (if isB T && isB U then ordT T U else 0), .int .i64 (errI (isB T && isB U))]) ∧ Below w.heap.size w w' := by
  cases hTc : T with
  | node k n s l =>
  cases hUc : U with
  | node k' n' s' l' =>
  subst hTc hUc
  have hv' := hv
  have hu' := hu
  obtain ⟨a, c, rfl, _⟩ := hv'.open
  obtain ⟨a', c', rfl, _⟩ := hu'.open
  clear hv' hu'
  have HV := Lib.hid hv
  have HU := Lib.hid hu
  clear hv hu
  cases hb : (isB (.node k n s l) && isB (.node k' n' s' l')) with
  | true =>
    have Hb : Hid ([Tr.node k n s l, .node k' n' s' l'].all isB = true) := by simpa [Hid] using hb
    clear hb
    go_enter Tryz.func6, Tryz.ntmps6
    go_wp2_with fail
    have hblk := block_at (W := (w.alloc (.cells #[.int .i64 k, .int .i64 n, .string s, .slice a l.length c] 24)).alloc (.cells #[.int .i64 k', .int .i64 n', .string s', .slice a' l'.length c'] 24)) (B := w.heap.size + 1 + 1) (o := .cells #[.int .i64 k, .int .i64 n, .string s, .slice a l.length c, .int .i64 k', .int .i64 n', .string s', .slice a' l'.length c'] 24) (by simp)
    refine (checkEach_any [.node k n s l, .node k' n' s' l'] (some ⟨w.heap.size + 1 + 1, 0, none⟩) 2 _ (by unfold maxLen; simp) ?_ (by intro t ht; simp at ht; rcases ht with rfl | rfl <;> assumption)).mono ?_
    · exact IsL.cons (by simp) (box_cell hblk 0) (box_cell hblk 1) (box_cell hblk 2) (box_cell hblk 3) (HV.out.up (below_a3 (Nat.le_refl _) _ _ _) (by simp; omega))
        (IsL.cons (by simp) (box_cell hblk 4) (box_cell hblk 5) (box_cell hblk 6) (box_cell hblk 7) (HU.out.up (below_a3 (Nat.le_refl _) _ _ _) (by simp; omega)) IsL.nil)
    rintro e w1 ⟨rfl, hB1⟩
    have hB2 := (below_a3 (Nat.le_refl w.heap.size) _ _ _).trans (hB1.mono (by simp; omega))
    obtain ⟨q1, _⟩ := bcell hB1
    have hsz := hB1.size
    simp only [World.size_alloc] at q1 hsz
    clear hB1 hblk
    rw [Hb.out]
    go_wp2_with fail
    refine (order_any (.node k n s l) (.node k' n' s' l') _ _ _ (HV.out.up hB2 hB2.size) (HU.out.up hB2 hB2.size)).mono ?_
    rintro e w2 ⟨rfl, hB3⟩
    clear q1
    go_wp2_with fail
    go_ret2
    exact ⟨rfl, hB2.trans (hB3.mono hB2.size)⟩
  | false =>
    have Hb : Hid ([Tr.node k n s l, .node k' n' s' l'].all isB = false) := by
      rw [Hid, ← hb]; simp
    clear hb
    go_enter Tryz.func6, Tryz.ntmps6
    go_wp2_with fail
    have hblk := block_at (W := (w.alloc (.cells #[.int .i64 k, .int .i64 n, .string s, .slice a l.length c] 24)).alloc (.cells #[.int .i64 k', .int .i64 n', .string s', .slice a' l'.length c'] 24)) (B := w.heap.size + 1 + 1) (o := .cells #[.int .i64 k, .int .i64 n, .string s, .slice a l.length c, .int .i64 k', .int .i64 n', .string s', .slice a' l'.length c'] 24) (by simp)
    refine (checkEach_any [.node k n s l, .node k' n' s' l'] (some ⟨w.heap.size + 1 + 1, 0, none⟩) 2 _ (by unfold maxLen; simp) ?_ (by intro t ht; simp at ht; rcases ht with rfl | rfl <;> assumption)).mono ?_
    · exact IsL.cons (by simp) (box_cell hblk 0) (box_cell hblk 1) (box_cell hblk 2) (box_cell hblk 3) (HV.out.up (below_a3 (Nat.le_refl _) _ _ _) (by simp; omega))
        (IsL.cons (by simp) (box_cell hblk 4) (box_cell hblk 5) (box_cell hblk 6) (box_cell hblk 7) (HU.out.up (below_a3 (Nat.le_refl _) _ _ _) (by simp; omega)) IsL.nil)
    rintro e w1 ⟨rfl, hB1⟩
    have hB2 := (below_a3 (Nat.le_refl w.heap.size) _ _ _).trans (hB1.mono (by simp; omega))
    clear hB1 hblk
    rw [Hb.out]
    go_wp2_with fail
    go_ret2
    exact ⟨rfl, hB2⟩
end Go.Proofs.YtdigiaigbcfccaaGreatDoor
