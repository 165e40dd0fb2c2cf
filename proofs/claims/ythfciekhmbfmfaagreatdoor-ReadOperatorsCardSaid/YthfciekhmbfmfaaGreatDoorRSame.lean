import Derived.Test.YthfciekhmbfmfaaGreatDoorTr
import Derived.Test.YthfciekhmbfmfaaGreatDoorMeas
import Derived.Laws.OwnMore
import Derived.Test.YthfciekhmbfmfaaGreatDoorOpsF
namespace Go.Proofs.YthfciekhmbfmfaaGreatDoor
open Go.RowKit Go
open Classical
attribute [local go_sem] monoUpon Yld.says

set_option maxRecDepth 100000 in
set_option maxHeartbeats 1000000 in
theorem refSame_any (T : Tr) : ∀ (U : Tr) (v u : Value) (w : World), IsT w.heap.size w T v → IsT w.heap.size w U u →
    Calls Tryz.prog 25 #[v, u] w fun e w' => e = .returned (.bool (eqT T U)) ∧ Below w.heap.size w w' := by
  induction T using Tr.ind with
  | h k n s l ih =>
    intro U v u w hv hu
    cases U with
    | node k' n' s' l' =>
    obtain ⟨a, c, rfl, _, _, _, hlc, hcm, hl⟩ := hv.open
    obtain ⟨a', c', rfl, _, _, _, hlc', hcm', hl'⟩ := hu.open
    have HI := Lib.hid ih
    clear ih hv hu
    unfold maxLen at hcm hcm'
    by_cases htop : k = k' ∧ n = n' ∧ s = s' ∧ l.length = l'.length
    · obtain ⟨rfl, rfl, rfl, hlen⟩ := htop
      have hlen1 : l'.length ≤ l.length := by omega
      have hlen2 : l.length ≤ l'.length := by omega
      have hle : (((l.length : Nat) : Int) != (l'.length : Nat)) = false := by simp [hlen]
      clear hlen
      by_cases h0 : 0 < l.length
      · obtain ⟨b, off, rfl, hb⟩ := hl.addr h0
        obtain ⟨b', off', rfl, hb'⟩ := hl'.addr (by omega)
        go_enter Tryz.func25, Tryz.ntmps25
        go_wp2_with fail
        have b1 : Box ((w.alloc (.cells #[.int .i64 k, .int .i64 n, .string s, .slice (some ⟨b, off, none⟩) l.length c] 31)).alloc (.cells #[.int .i64 k, .int .i64 n, .string s, .slice (some ⟨b', off', none⟩) l'.length c'] 31)) w.heap.size #[.int .i64 k, .int .i64 n, .string s, .slice (some ⟨b, off, none⟩) l.length c] 31 := (Box.at rfl).alloc _
        have b2 : Box ((w.alloc (.cells #[.int .i64 k, .int .i64 n, .string s, .slice (some ⟨b, off, none⟩) l.length c] 31)).alloc (.cells #[.int .i64 k, .int .i64 n, .string s, .slice (some ⟨b', off', none⟩) l'.length c'] 31)) (w.heap.size + 1) #[.int .i64 k, .int .i64 n, .string s, .slice (some ⟨b', off', none⟩) l'.length c'] 31 := Box.at (by simp)
        have hB0 := below_a2 (Nat.le_refl w.heap.size) (.cells #[.int .i64 k, .int .i64 n, .string s, .slice (some ⟨b, off, none⟩) l.length c] 31) (.cells #[.int .i64 k, .int .i64 n, .string s, .slice (some ⟨b', off', none⟩) l'.length c'] 31)
        generalize (w.alloc (.cells #[.int .i64 k, .int .i64 n, .string s, .slice (some ⟨b, off, none⟩) l.length c] 31)).alloc (.cells #[.int .i64 k, .int .i64 n, .string s, .slice (some ⟨b', off', none⟩) l'.length c'] 31) = W1 at *
        go_loopw [5] (fun i wr => ∃ j : Nat, j ≤ l.length ∧ i = .int .i64 j ∧ l.take j = l'.take j ∧ Ext W1 wr) (fun i _ => l.length - (intOf i).toNat)
        case atStart => exact ⟨0, Nat.zero_le _, rfl, rfl, Ext.refl _⟩
        case round =>
          obtain ⟨j, hj, rfl, htk, hX⟩ := hrel
          have Htk := Lib.hid htk
          clear htk
          have hBw := hB0.trans (Below.mono hX hB0.size)
          have x3 := (Box.keep hX b1).cell 3
          have y3 := (Box.keep hX b2).cell 3
          have xl := (Box.keep hX b1).lt
          have yl := (Box.keep hX b2).lt
          simp only [List.getElem?_toArray, List.getElem?_cons_succ, List.getElem?_cons_zero] at x3 y3
          by_cases hlt : j < l.length
          · have hlt' : j < l'.length := by omega
            obtain ⟨tk, tn, ts, tl, ta, tc, te, c0, c1, c2, c3, ht⟩ := hl.node' hb hBw j hlt
            obtain ⟨uk, un, us, ul, ua, uc, ue, d0, d1, d2, d3, hu⟩ := hl'.node' hb' hBw j hlt'
            replace ht := ht.below hBw
            replace hu := hu.below hBw
            have Te := Lib.hid te
            have Ue := Lib.hid ue
            clear te ue
            have hbw : b < wr.heap.size := by have := hBw.size; omega
            have hbw' : b' < wr.heap.size := by have := hBw.size; omega
            by_cases heq : l[j] = l'[j]
            · have Heq : Hid (eqT l[j] l'[j] = true) := by simp [Hid, eqT, heq]
              have htk' : Hid (l.take (j + 1) = l'.take (j + 1)) := by
                unfold Hid
                rw [List.take_succ_eq_append_getElem hlt, List.take_succ_eq_append_getElem hlt', Htk.out, heq]
              clear heq Htk
              go_wp2_with fail
              apply wp_region_mono [.det _, .det _, .det _, .det _, .det _, .det _, .det _, .det _, .det _, .det _, .det _, .det _] (by kernel_rfl) (by kernel_rfl)
              rotate_left
              · iterate 10 (
                  refine wpM_step (fun K hK => ?_)
                  go_simp
                  apply And.intro
                  · intro w' hC _
                    have q1 := hC.old.1
                    have hbs := hC.old.2.2
                    clear hC
                    go_simp
                    exact ⟨Ext.refl _, rfl⟩
                  refine nextM_det (hK _ _ ?_)
                  clear hK K)
                refine wpM_step (fun K hK => ?_)
                go_simp
                apply And.intro
                · intro w' hC _
                  go_simp
                  refine ⟨Ext.refl _, (HI.out _ (List.getElem_mem hlt) _ _ _ _ (ht.up (Below.mono hC hBw.size) (Nat.le_trans hBw.size hC.old.2.2)) (hu.up (Below.mono hC hBw.size) (Nat.le_trans hBw.size hC.old.2.2))).mono ?_⟩
                  rintro e w1 ⟨rfl, hB1⟩
                  exact ⟨congrArg (fun b => Ending.returned (Value.bool b)) Heq.out, hB1⟩
                refine nextM_det (hK _ _ ?_)
                clear hK K
                iterate 1 (
                  refine wpM_step (fun K hK => ?_)
                  go_simp
                  apply And.intro
                  · intro w' hC _
                    have q1 := hC.old.1
                    have hbs := hC.old.2.2
                    clear hC
                    go_simp
                    exact ⟨Ext.refl _, rfl⟩
                  refine nextM_det (hK _ _ ?_)
                  clear hK K)
                refine wpM_nil ?_
                intro w1 hC1 _
                have hB2 := hX.trans hC1
                clear hC1 c0 c1 c2 c3 d0 d1 d2 d3 x3 y3
                go_wp2_with fail
                go_roundw
                case rel => exact ⟨j + 1, hlt, by go_num, htk'.out, hB2⟩
                case measure => simp [intOf]; omega
              · intro y hy
                simp only [List.mem_cons, List.not_mem_nil, or_false] at hy
                rcases hy with rfl | rfl | rfl | rfl | rfl | rfl | rfl | rfl | rfl | rfl | rfl | rfl <;> first | trivial
            · have Heq : Hid (eqT l[j] l'[j] = false) := by simp [Hid, eqT, heq]
              have hne : Hid (eqT (.node k n s l) (.node k n s l') = false) := by
                simp only [Hid, eqT, decide_eq_false_iff_not, Tr.node.injEq]
                rintro ⟨_, _, _, e⟩
                subst e
                exact heq rfl
              clear heq Htk
              go_wp2_with fail
              apply wp_region_mono [.det _, .det _, .det _, .det _, .det _, .det _, .det _, .det _, .det _, .det _, .det _, .det _] (by kernel_rfl) (by kernel_rfl)
              rotate_left
              · iterate 10 (
                  refine wpM_step (fun K hK => ?_)
                  go_simp
                  apply And.intro
                  · intro w' hC _
                    have q1 := hC.old.1
                    have hbs := hC.old.2.2
                    clear hC
                    go_simp
                    exact ⟨Ext.refl _, rfl⟩
                  refine nextM_det (hK _ _ ?_)
                  clear hK K)
                refine wpM_step (fun K hK => ?_)
                go_simp
                apply And.intro
                · intro w' hC _
                  go_simp
                  refine ⟨Ext.refl _, (HI.out _ (List.getElem_mem hlt) _ _ _ _ (ht.up (Below.mono hC hBw.size) (Nat.le_trans hBw.size hC.old.2.2)) (hu.up (Below.mono hC hBw.size) (Nat.le_trans hBw.size hC.old.2.2))).mono ?_⟩
                  rintro e w1 ⟨rfl, hB1⟩
                  exact ⟨congrArg (fun b => Ending.returned (Value.bool b)) Heq.out, hB1⟩
                refine nextM_det (hK _ _ ?_)
                clear hK K
                iterate 1 (
                  refine wpM_step (fun K hK => ?_)
                  go_simp
                  apply And.intro
                  · intro w' hC _
                    have q1 := hC.old.1
                    have hbs := hC.old.2.2
                    clear hC
                    go_simp
                    exact ⟨Ext.refl _, rfl⟩
                  refine nextM_det (hK _ _ ?_)
                  clear hK K)
                refine wpM_nil ?_
                intro w1 hC1 _
                have hB2 := hX.trans hC1
                clear hC1 c0 c1 c2 c3 d0 d1 d2 d3 x3 y3
                go_wp2_with fail
                go_ret
                exact ⟨retB hne.out, hB0.trans (Below.mono hB2 hB0.size)⟩
              · intro y hy
                simp only [List.mem_cons, List.not_mem_nil, or_false] at hy
                rcases hy with rfl | rfl | rfl | rfl | rfl | rfl | rfl | rfl | rfl | rfl | rfl | rfl <;> first | trivial
          · go_wp2_with fail
            go_ret
            refine ⟨retB ?_, hBw⟩
            have e : l = l' := by
              have := Htk.out
              rwa [List.take_of_length_le (by omega), List.take_of_length_le (by omega)] at this
            simp [eqT, e]
      · have e1 : l = [] := List.length_eq_zero_iff.1 (by omega)
        have e2 : l' = [] := List.length_eq_zero_iff.1 (by omega)
        subst e1 e2
        have hne : Hid (eqT (.node k n s []) (.node k n s []) = true) := by simp [Hid, eqT]
        clear h0
        simp only [List.length_nil]
        go_enter Tryz.func25, Tryz.ntmps25
        go_wp2_with fail
        refine wp_loop_rounds 1 ?_
        rw [rounds_succ]
        go_wp2_with fail
        go_ret
        exact ⟨retB hne.out, below_box2 _ _ _⟩
    · have hr : Hid (eqT (.node k n s l) (.node k' n' s' l') = false) := by
        simp only [Hid, eqT, decide_eq_false_iff_not, Tr.node.injEq]
        rintro ⟨rfl, rfl, rfl, rfl⟩
        exact htop ⟨rfl, rfl, rfl, rfl⟩
      by_cases h1 : k = k'
      · by_cases h2 : n = n'
        · by_cases h3 : s = s'
          · have h4 : (((l.length : Nat) : Int) != (l'.length : Nat)) = true := by
              simp only [bne_iff_ne]
              intro e
              exact htop ⟨h1, h2, h3, by omega⟩
            subst h1 h2 h3
            clear htop
            go_enter Tryz.func25, Tryz.ntmps25
            go_wp2_with fail
            go_ret
            exact ⟨retB hr.out, below_box2 _ _ _⟩
          · have h3' : (s.toList == s'.toList) = false := bytes_ne h3
            subst h1 h2
            clear htop h3
            go_enter Tryz.func25, Tryz.ntmps25
            go_wp2_with fail
            go_ret
            exact ⟨retB hr.out, below_box2 _ _ _⟩
        · have h2' : (n != n') = true := by simpa using h2
          subst h1
          clear htop h2
          go_enter Tryz.func25, Tryz.ntmps25
          go_wp2_with fail
          go_ret
          exact ⟨retB hr.out, below_box2 _ _ _⟩
      · have h1' : (k != k') = true := by simpa using h1
        clear htop h1
        go_enter Tryz.func25, Tryz.ntmps25
        go_wp2_with fail
        go_ret
        exact ⟨retB hr.out, below_box2 _ _ _⟩

theorem refSameAll (l l' : List Tr) (v v' : Value) (w : World) (hv : IsS w.heap.size w l v) (hu : IsS w.heap.size w l' v') :
    Calls Tryz.prog 27 #[v, v'] w fun e w' => e = .returned (.bool (eqLT l l')) ∧ Below w.heap.size w w' := by
  obtain ⟨a, c, rfl, h1, h2, h3⟩ := hv
  obtain ⟨a', c', rfl, h1', h2', h3'⟩ := hu
  exact refSameAll_any l l' a a' c c' w (Nat.le_trans h1 h2) (Nat.le_trans h1' h2') h3 h3' (fun t _ u v v' W h h' => refSame_any t u v v' W h h')
end Go.Proofs.YthfciekhmbfmfaaGreatDoor

namespace Go.Proofs.YthfciekhmbfmfaaGreatDoor
open Go.RowKit Go

def emp : ByteArray := ⟨#[]⟩
def tV (n : Int) : Tr := .node 1 n emp []
def tA (s : ByteArray) : Tr := .node 3 0 s []
def tF (s : ByteArray) (l : List Tr) : Tr := .node 5 0 s l

end Go.Proofs.YthfciekhmbfmfaaGreatDoor

/- Trees in blocks of which something is known: what is new lies in new blocks. -/
namespace Go.Proofs.YthfciekhmbfmfaaGreatDoor
open Go.RowKit Go

mutual
/-- The value v is the tree, in blocks for which p holds. -/
def IsP (p : Nat → Prop) (W : World) : Tr → Value → Prop
  | .node k n s l, v => ∃ (a : Option Addr) (c : Nat), v = .agg #[.int .i64 k, .int .i64 n, .string s, .slice a l.length c] ∧ okI k ∧ okI n ∧ s.size ≤ maxLen ∧ l.length ≤ c ∧ c ≤ maxLen ∧ IsPL p W l a
def IsPL (p : Nat → Prop) (W : World) : List Tr → Option Addr → Prop
  | [], _ => True
  | t :: ts, a => ∃ (b off : Nat) (v0 v1 v2 v3 : Value), a = some ⟨b, off, none⟩ ∧ p b ∧ W.cell? ⟨b, off, none⟩ = some v0 ∧ W.cell? ⟨b, off + 1, none⟩ = some v1 ∧ W.cell? ⟨b, off + 2, none⟩ = some v2 ∧
      W.cell? ⟨b, off + 3, none⟩ = some v3 ∧ IsP p W t (.agg #[v0, v1, v2, v3]) ∧ IsPL p W ts (some ⟨b, off + 4, none⟩)
end
def IsPS (p : Nat → Prop) (W : World) (l : List Tr) (v : Value) : Prop :=
  ∃ (a : Option Addr) (c : Nat), v = .slice a l.length c ∧ l.length ≤ c ∧ c ≤ maxLen ∧ IsPL p W l a

mutual
theorem IsP.map {p q : Nat → Prop} {A B : World} (h : ∀ b, p b → q b ∧ B.heap[b]? = A.heap[b]?) : ∀ (T : Tr) (v : Value), IsP p A T v → IsP q B T v
  | .node _ _ _ l, _, h1 => by
    unfold IsP at h1 ⊢
    obtain ⟨a, c, e, h2, h3, h4, h5, h6, h7⟩ := h1
    exact ⟨a, c, e, h2, h3, h4, h5, h6, IsPL.map h l a h7⟩
theorem IsPL.map {p q : Nat → Prop} {A B : World} (h : ∀ b, p b → q b ∧ B.heap[b]? = A.heap[b]?) : ∀ (l : List Tr) (a : Option Addr), IsPL p A l a → IsPL q B l a
  | [], _, _ => by unfold IsPL; trivial
  | t :: ts, _, h1 => by
    unfold IsPL at h1 ⊢
    obtain ⟨b, off, v0, v1, v2, v3, e, hb, c0, c1, c2, c3, ht, hl⟩ := h1
    have hh := (h b hb).2
    exact ⟨b, off, v0, v1, v2, v3, e, (h b hb).1, (World.cell?_of_block (a := ⟨b, off, none⟩) hh).trans c0, (World.cell?_of_block (a := ⟨b, off + 1, none⟩) hh).trans c1, (World.cell?_of_block (a := ⟨b, off + 2, none⟩) hh).trans c2,
      (World.cell?_of_block (a := ⟨b, off + 3, none⟩) hh).trans c3, IsP.map h t _ ht, IsPL.map h ts _ hl⟩
end
mutual
theorem IsP.toT {p : Nat → Prop} {n₀ : Nat} {A : World} (h : ∀ b, p b → b < n₀) : ∀ (T : Tr) (v : Value), IsP p A T v → IsT n₀ A T v
  | .node _ _ _ l, _, h1 => by
    unfold IsP at h1
    unfold IsT
    obtain ⟨a, c, e, h2, h3, h4, h5, h6, h7⟩ := h1
    exact ⟨a, c, e, h2, h3, h4, h5, h6, IsPL.toL h l a h7⟩
theorem IsPL.toL {p : Nat → Prop} {n₀ : Nat} {A : World} (h : ∀ b, p b → b < n₀) : ∀ (l : List Tr) (a : Option Addr), IsPL p A l a → IsL n₀ A l a
  | [], _, _ => by unfold IsL; trivial
  | t :: ts, _, h1 => by
    unfold IsPL at h1
    unfold IsL
    obtain ⟨b, off, v0, v1, v2, v3, e, hb, c0, c1, c2, c3, ht, hl⟩ := h1
    exact ⟨b, off, v0, v1, v2, v3, e, h b hb, c0, c1, c2, c3, IsP.toT h t _ ht, IsPL.toL h ts _ hl⟩
end
mutual
theorem IsT.toP {n₀ : Nat} {A : World} : ∀ (T : Tr) (v : Value), IsT n₀ A T v → IsP (· < n₀) A T v
  | .node _ _ _ l, _, h1 => by
    unfold IsT at h1
    unfold IsP
    obtain ⟨a, c, e, h2, h3, h4, h5, h6, h7⟩ := h1
    exact ⟨a, c, e, h2, h3, h4, h5, h6, IsL.toP l a h7⟩
theorem IsL.toP {n₀ : Nat} {A : World} : ∀ (l : List Tr) (a : Option Addr), IsL n₀ A l a → IsPL (· < n₀) A l a
  | [], _, _ => by unfold IsPL; trivial
  | t :: ts, _, h1 => by
    unfold IsL at h1
    unfold IsPL
    obtain ⟨b, off, v0, v1, v2, v3, e, hb, c0, c1, c2, c3, ht, hl⟩ := h1
    exact ⟨b, off, v0, v1, v2, v3, e, hb, c0, c1, c2, c3, IsT.toP t _ ht, IsL.toP ts _ hl⟩
end
theorem IsP.open {p : Nat → Prop} {W : World} {k n : Int} {s : ByteArray} {l : List Tr} {v : Value} (h : IsP p W (.node k n s l) v) :
    ∃ (a : Option Addr) (c : Nat), v = .agg #[.int .i64 k, .int .i64 n, .string s, .slice a l.length c] ∧ okI k ∧ okI n ∧ s.size ≤ maxLen ∧ l.length ≤ c ∧ c ≤ maxLen ∧ IsPL p W l a := by
  unfold IsP at h; exact h
theorem IsP.mk {p : Nat → Prop} {W : World} {k n : Int} {s : ByteArray} {l : List Tr} {a : Option Addr} {c : Nat} (h1 : okI k) (h2 : okI n) (h3 : s.size ≤ maxLen) (h4 : l.length ≤ c) (h5 : c ≤ maxLen) (h6 : IsPL p W l a) :
    IsP p W (.node k n s l) (.agg #[.int .i64 k, .int .i64 n, .string s, .slice a l.length c]) := by
  unfold IsP; exact ⟨a, c, rfl, h1, h2, h3, h4, h5, h6⟩
theorem IsPL.nil {p : Nat → Prop} {W : World} {a : Option Addr} : IsPL p W [] a := by unfold IsPL; trivial
theorem IsPL.of_get {p : Nat → Prop} {W : World} : ∀ {l : List Tr} {b off : Nat}, p b → (∀ i (hi : i < l.length), ∃ v0 v1 v2 v3, W.cell? ⟨b, off + i * 4, none⟩ = some v0 ∧ W.cell? ⟨b, off + i * 4 + 1, none⟩ = some v1 ∧
    W.cell? ⟨b, off + i * 4 + 2, none⟩ = some v2 ∧ W.cell? ⟨b, off + i * 4 + 3, none⟩ = some v3 ∧ IsP p W l[i] (.agg #[v0, v1, v2, v3])) → IsPL p W l (some ⟨b, off, none⟩)
  | [], _, _, _, _ => IsPL.nil
  | t :: ts, b, off, hb, h => by
    unfold IsPL
    obtain ⟨v0, v1, v2, v3, c0, c1, c2, c3, ht⟩ := h 0 (by simp)
    refine ⟨b, off, v0, v1, v2, v3, rfl, hb, by simpa using c0, by simpa using c1, by simpa using c2, by simpa using c3, by simpa using ht, IsPL.of_get hb fun i hi => ?_⟩
    obtain ⟨u0, u1, u2, u3, d0, d1, d2, d3, hu⟩ := h (i + 1) (by simpa using hi)
    have e0 : off + (i + 1) * 4 = off + 4 + i * 4 := by omega
    rw [e0] at d0 d1 d2 d3
    exact ⟨u0, u1, u2, u3, d0, d1, d2, d3, by simpa using hu⟩

/-- The blocks that are new since a number. -/
def New (lo : Nat) (W : World) (b : Nat) : Prop := lo ≤ b ∧ b < W.heap.size
theorem New.toT {lo : Nat} {W : World} {T : Tr} {v : Value} (h : IsP (New lo W) W T v) : IsT W.heap.size W T v := IsP.toT (fun _ h => h.2) T v h
theorem New.below {lo lo' : Nat} {A B : World} {T : Tr} {v : Value} (h : IsP (New lo A) A T v) (hB : Below A.heap.size A B) (hl : lo' ≤ lo) : IsP (New lo' B) B T v :=
  IsP.map (fun b hb => ⟨⟨Nat.le_trans hl hb.1, Nat.lt_of_lt_of_le hb.2 hB.size⟩, hB.block b hb.2⟩) T v h

/-- The cells of a row of trees, as far as they have been laid. -/
def Laid (W : World) (lo : Nat) (cs : Array Value) (l : List Tr) : Prop := ∀ i (hi : i < l.length), ∃ v0 v1 v2 v3, cs[i * 4]? = some v0 ∧ cs[i * 4 + 1]? = some v1 ∧ cs[i * 4 + 2]? = some v2 ∧ cs[i * 4 + 3]? = some v3 ∧ IsP (New lo W) W l[i] (.agg #[v0, v1, v2, v3])
theorem Laid.keep {A B : World} {lo : Nat} {cs : Array Value} {l : List Tr} (h : Laid A lo cs l) (hs : A.heap.size ≤ B.heap.size) (hb : ∀ b, lo ≤ b → b < A.heap.size → B.heap[b]? = A.heap[b]?) : Laid B lo cs l := fun i hi => by
  obtain ⟨v0, v1, v2, v3, c0, c1, c2, c3, ht⟩ := h i hi
  exact ⟨v0, v1, v2, v3, c0, c1, c2, c3, IsP.map (fun b hb' => ⟨⟨hb'.1, Nat.lt_of_lt_of_le hb'.2 hs⟩, hb b hb'.1 hb'.2⟩) _ _ ht⟩
theorem Laid.snoc {W : World} {lo : Nat} {cs : Array Value} {l : List Tr} {t : Tr} {a0 a1 a2 a3 : Value} (h : Laid W lo cs l) (hsz : l.length * 4 + 4 ≤ cs.size) (ht : IsP (New lo W) W t (.agg #[a0, a1, a2, a3])) :
    Laid W lo ((((cs.setIfInBounds (l.length * 4) a0).setIfInBounds (l.length * 4 + 1) a1).setIfInBounds (l.length * 4 + 2) a2).setIfInBounds (l.length * 4 + 3) a3) (l ++ [t]) := fun i hi => by
  simp only [List.length_append, List.length_cons, List.length_nil] at hi
  by_cases hlt : i < l.length
  · obtain ⟨v0, v1, v2, v3, c0, c1, c2, c3, hT⟩ := h i hlt
    refine ⟨v0, v1, v2, v3, ?_, ?_, ?_, ?_, by rw [List.getElem_append_left hlt]; exact hT⟩
    · rw [Array.getElem?_setIfInBounds_ne (by omega), Array.getElem?_setIfInBounds_ne (by omega), Array.getElem?_setIfInBounds_ne (by omega), Array.getElem?_setIfInBounds_ne (by omega), c0]
    · rw [Array.getElem?_setIfInBounds_ne (by omega), Array.getElem?_setIfInBounds_ne (by omega), Array.getElem?_setIfInBounds_ne (by omega), Array.getElem?_setIfInBounds_ne (by omega), c1]
    · rw [Array.getElem?_setIfInBounds_ne (by omega), Array.getElem?_setIfInBounds_ne (by omega), Array.getElem?_setIfInBounds_ne (by omega), Array.getElem?_setIfInBounds_ne (by omega), c2]
    · rw [Array.getElem?_setIfInBounds_ne (by omega), Array.getElem?_setIfInBounds_ne (by omega), Array.getElem?_setIfInBounds_ne (by omega), Array.getElem?_setIfInBounds_ne (by omega), c3]
  · have e : i = l.length := by omega
    subst e
    refine ⟨a0, a1, a2, a3, ?_, ?_, ?_, ?_, by rw [List.getElem_append_right (Nat.le_refl _)]; simpa using ht⟩
    · rw [Array.getElem?_setIfInBounds_ne (by omega), Array.getElem?_setIfInBounds_ne (by omega), Array.getElem?_setIfInBounds_ne (by omega), Array.getElem?_setIfInBounds_self_of_lt (by omega)]
    · rw [Array.getElem?_setIfInBounds_ne (by omega), Array.getElem?_setIfInBounds_ne (by omega), Array.getElem?_setIfInBounds_self_of_lt (by simp; omega)]
    · rw [Array.getElem?_setIfInBounds_ne (by omega), Array.getElem?_setIfInBounds_self_of_lt (by simp; omega)]
    · rw [Array.getElem?_setIfInBounds_self_of_lt (by simp; omega)]
theorem Laid.done {W : World} {B : Nat} {cs : Array Value} {l : List Tr} (h : Laid W (B + 1) cs l) (hB : Box W B cs 31) : IsPL (New B W) W l (some ⟨B, 0, none⟩) :=
  IsPL.of_get ⟨Nat.le_refl _, hB.lt⟩ fun i hi => by
    obtain ⟨v0, v1, v2, v3, c0, c1, c2, c3, ht⟩ := h i hi
    refine ⟨v0, v1, v2, v3, ?_, ?_, ?_, ?_, IsP.map (fun b hb => ⟨⟨by have := hb.1; omega, hb.2⟩, rfl⟩) _ _ ht⟩
    · rw [hB.cell, Nat.zero_add]; exact c0
    · rw [hB.cell, Nat.zero_add]; exact c1
    · rw [hB.cell, Nat.zero_add]; exact c2
    · rw [hB.cell, Nat.zero_add]; exact c3
end Go.Proofs.YthfciekhmbfmfaaGreatDoor

/- The parser's state in memory, and what a step of it leaves as it was. -/
namespace Go.Proofs.YthfciekhmbfmfaaGreatDoor
open Go.RowKit Go Go.Maps

/-- A block of terms, from lo on. -/
def TN (lo : Nat) (W : World) (b : Nat) : Prop := lo ≤ b ∧ ∃ c fr, W.heap[b]? = some (Obj.cells c 31 fr)
theorem TN.lt {lo : Nat} {W : World} {b : Nat} (h : TN lo W b) : b < W.heap.size := by obtain ⟨_, c, fr, h⟩ := h; exact (Array.getElem?_eq_some_iff.1 h).1
theorem TN.toT {lo : Nat} {W : World} {T : Tr} {v : Value} (h : IsP (TN lo W) W T v) : IsT W.heap.size W T v := IsP.toT (fun _ h => h.lt) T v h
/-- All blocks of terms stay as they are. -/
def TmK (A B : World) : Prop := ∀ (b : Nat) (c : Array Value) (fr : Nat × Nat), A.heap[b]? = some (Obj.cells c 31 fr) → B.heap[b]? = some (Obj.cells c 31 fr)
theorem TmK.refl (A : World) : TmK A A := fun _ _ _ h => h
theorem TmK.trans {A B C : World} (h : TmK A B) (k : TmK B C) : TmK A C := fun b c fr e => k b c fr (h b c fr e)
theorem TmK.of_below {A B : World} (h : Below A.heap.size A B) : TmK A B := fun b c fr e => (h.block b (Array.getElem?_eq_some_iff.1 e).1).trans e
theorem TN.up {lo lo' : Nat} {A B : World} {T : Tr} {v : Value} (h : IsP (TN lo A) A T v) (hK : TmK A B) (hl : lo' ≤ lo) : IsP (TN lo' B) B T v :=
  IsP.map (fun b hb => by
    obtain ⟨h1, c, fr, h2⟩ := hb
    have h3 := hK b c fr h2
    exact ⟨⟨Nat.le_trans hl h1, c, fr, h3⟩, by rw [h3, h2]⟩) T v h
theorem TNL.up {lo lo' : Nat} {A B : World} {l : List Tr} {a : Option Addr} (h : IsPL (TN lo A) A l a) (hK : TmK A B) (hl : lo' ≤ lo) : IsPL (TN lo' B) B l a :=
  IsPL.map (fun b hb => by
    obtain ⟨h1, c, fr, h2⟩ := hb
    have h3 := hK b c fr h2
    exact ⟨⟨Nat.le_trans hl h1, c, fr, h3⟩, by rw [h3, h2]⟩) l a h
/-- What is true of the lexemes of a text. -/
structure LxOk (tot : Nat) (xs : List Lx) : Prop where
  len : xs.length ≤ 8000
  tot : tot ≤ 20000
  tok : ∀ x ∈ xs, x.t.s.length ≤ 255 ∧ x.t.n ≤ 2147483647 ∧ x.a ≤ 20000 ∧ x.e ≤ 20000
def strV (s : List UInt8) : List Value := [.string ⟨s.toArray⟩]
/-- The parser in its box. -/
structure PaSt (w : World) (B b1 b2 V : Nat) (tot : Nat) (xs : List Lx) (pv : Value) (st : PS) (nv : Value) (W : World) : Prop where
  box : Box W B #[pv, .int .i64 (st.i : Int), .int .i64 (tot : Int), .map (some b1), .map (some b2), .map (some V), nv] 149
  row : OwnR 78 3 pcV w.heap.size xs pv W
  ops : OpsTwo w.heap.size W b1 b2
  vars : ∃ n, n ≤ st.ns.length ∧ VarsAt W V n (vix st.ns)
  names : OwnR 9 1 strV w.heap.size st.ns nv W
  ne1 : V ≠ b1
  ne2 : V ≠ b2
  below : Below w.heap.size w W
  hB : w.heap.size ≤ B
  hV : w.heap.size ≤ V
  hi : st.i ≤ xs.length
  hn : st.ns.length ≤ st.i
/-- What a step of the parser leaves as it was. -/
structure PaTo (B V : Nat) (nv nv' : Value) (W W' : World) : Prop where
  size : W.heap.size ≤ W'.heap.size
  block : ∀ k, k < W.heap.size → k ≠ B → k ≠ V → some k ≠ nv.ownBlock → W'.heap[k]? = W.heap[k]?
  own : ∀ b, nv'.ownBlock = some b → nv.ownBlock = some b ∨ W.heap.size ≤ b
theorem PaTo.up {B V : Nat} {nv : Value} {W W' : World} (h : Below W.heap.size W W') : PaTo B V nv nv W W' := ⟨h.size, fun k hk _ _ _ => h.block k hk, fun _ h => .inl h⟩
theorem PaTo.trans {B V : Nat} {p q r : Value} {a b c : World} (h : PaTo B V p q a b) (k : PaTo B V q r b c) : PaTo B V p r a c :=
  ⟨Nat.le_trans h.size k.size, fun i hi h1 h2 h3 => (k.block i (Nat.lt_of_lt_of_le hi h.size) h1 h2 (fun e => by rcases h.own i e.symm with q | q; exact h3 q.symm; omega)).trans (h.block i hi h1 h2 h3), fun i hi => by
    rcases k.own i hi with q | q
    · exact h.own i q
    · exact .inr (Nat.le_trans h.size q)⟩
/-- The block of a row has the row's type. -/
theorem OwnR.typed {α : Type} {t : TypeId} {k : Nat} {f : α → List Value} {lo : Nat} {l : List α} {v : Value} {W : World} (h : OwnR t k f lo l v W) {b : Nat} (hb : v.ownBlock = some b) : ∃ c fr, W.heap[b]? = some (Obj.cells c t fr) := by
  rcases h.own.2 with ⟨rfl, _⟩ | ⟨g, cap, cur, rfl, _, hg, _⟩
  · cases hb
  · cases hb; exact ⟨_, _, hg⟩
section
variable {w : World} {B b1 b2 V tot : Nat} {xs : List Lx} {pv nv : Value} {st : PS} {W : World}
theorem PaSt.apart (h : PaSt w B b1 b2 V tot xs pv st nv W) {R : Nat} {c : Array Value} {t : TypeId} {fr : Nat × Nat} (hR : W.heap[R]? = some (Obj.cells c t fr)) (h1 : t ≠ 149) (h2 : t ≠ 9) : R ≠ B ∧ R ≠ V ∧ some R ≠ nv.ownBlock := by
  refine ⟨fun e => ?_, fun e => ?_, fun e => ?_⟩
  · subst e
    have := h.box
    rw [show W.heap[R]? = some _ from this] at hR
    cases hR
    exact h1 rfl
  · subst e
    obtain ⟨n, _, hv⟩ := h.vars
    obtain ⟨es, cl, hm⟩ := hv.map
    rw [hm] at hR
    cases hR
  · obtain ⟨c', fr', h3⟩ := h.names.typed e.symm
    rw [h3] at hR
    cases hR
    exact h2 rfl
theorem PaTo.tk {nv' : Value} {W' : World} (h : PaSt w B b1 b2 V tot xs pv st nv W) (hT : PaTo B V nv nv' W W') : TmK W W' := fun b c fr e => by
  obtain ⟨h1, h2, h3⟩ := h.apart e (by decide) (by decide)
  exact (hT.block b (Array.getElem?_eq_some_iff.1 e).1 h1 h2 h3).trans e
theorem PaTo.box {nv' : Value} {W' : World} (h : PaSt w B b1 b2 V tot xs pv st nv W) (hT : PaTo B V nv nv' W W') {R : Nat} {cs : Array Value} {t : TypeId} (hR : Box W R cs t) (g1 : t ≠ 149) (g2 : t ≠ 9) : Box W' R cs t := by
  obtain ⟨h1, h2, h3⟩ := h.apart hR g1 g2
  exact (hT.block R hR.lt h1 h2 h3).trans hR
theorem PaSt.up {W' : World} (h : PaSt w B b1 b2 V tot xs pv st nv W) (hB : Below W.heap.size W W') : PaSt w B b1 b2 V tot xs pv st nv W' := by
  obtain ⟨n, hn, hv⟩ := h.vars
  obtain ⟨o1, o2, o3, ⟨m1, o4⟩, m2, o5⟩ := h.ops
  exact ⟨Box.keep hB h.box, h.row.up hB, ⟨o1, o2, o3, ⟨m1, o4.kept (gr_b none hB) (by simp)⟩, m2, o5.kept (gr_b none hB) (by simp)⟩, ⟨n, hn, hv.kept (gr_b none hB) (by simp)⟩, h.names.up hB, h.ne1, h.ne2, h.below.trans (hB.mono h.below.size), h.hB, h.hV, h.hi, h.hn⟩
/-- The number of the next lexeme is written. -/
theorem PaSt.setAt (h : PaSt w B b1 b2 V tot xs pv st nv W) (j : Nat) (h1 : st.i ≤ j) (h2 : j ≤ xs.length) : PaSt w B b1 b2 V tot xs pv ⟨j, st.ns⟩ nv (W.setCell ⟨B, 1, none⟩ (.int .i64 (j : Int))) ∧ PaTo B V nv nv W (W.setCell ⟨B, 1, none⟩ (.int .i64 (j : Int))) := by
  have hg := gr_set B 1 W (.int .i64 (j : Int))
  obtain ⟨n, hn, hv⟩ := h.vars
  obtain ⟨o1, o2, o3, ⟨m1, o4⟩, m2, o5⟩ := h.ops
  have hbx : ∀ {b : Nat}, (∃ es clock, W.heap[b]? = some (Obj.map es clock)) → some b ≠ some B := fun ⟨es, cl, hm⟩ e => by
    cases e
    have := h.box
    rw [show W.heap[B]? = some _ from this] at hm
    cases hm
  have hr : ∀ {α : Type} {t : TypeId} {k : Nat} {f : α → List Value} {l : List α} {v : Value}, OwnR t k f w.heap.size l v W → t ≠ 149 → OwnR t k f w.heap.size l v (W.setCell ⟨B, 1, none⟩ (.int .i64 (j : Int))) := fun {α t k f l v} ho ht =>
    ⟨ho.own.kept hg (by
      rcases hb : v.ownBlock with _ | b
      · exact .inl rfl
      · refine .inr fun e => ?_
        cases e
        obtain ⟨c, fr, h3⟩ := ho.typed hb
        have := h.box
        rw [show W.heap[B]? = some _ from this] at h3
        cases h3
        exact ht rfl)⟩
  refine ⟨⟨h.box.set 1 _, hr h.row (by decide), ⟨o1, o2, o3, ⟨m1, o4.kept hg (hbx o4.map)⟩, m2, o5.kept hg (hbx o5.map)⟩, ⟨n, hn, hv.kept hg (hbx hv.map)⟩, hr h.names (by decide), h.ne1, h.ne2, h.below.trans (gr_low hg h.below.size (fun g e => by cases e; exact h.hB)), h.hB, h.hV, h2, Nat.le_trans h.hn h1⟩, ?_⟩
  exact ⟨by simp, fun k hk h1 _ _ => Below.heap_setCell _ _ _ _ h1, fun b e => .inl e⟩
/-- The cells of the i-th lexeme. -/
theorem PaSt.piece (h : PaSt w B b1 b2 V tot xs pv st nv W) {i : Nat} (hi : i < xs.length) : ∃ g c, pv = .slice (some ⟨g, 0, none⟩) xs.length c ∧ g < W.heap.size ∧ W.cell? ⟨g, i * 3, none⟩ = some (tokV xs[i].t) ∧ W.cell? ⟨g, i * 3 + 1, none⟩ = some (.int .i64 (xs[i].a : Int)) ∧ W.cell? ⟨g, i * 3 + 2, none⟩ = some (.int .i64 (xs[i].e : Int)) := by
  have hown := h.row.own
  rcases hown.2 with ⟨_, h0⟩ | ⟨g, cap, cur, rfl, _, hg, _⟩
  · omega
  · have hfl : ∀ j, j < 3 → (xs.flatMap pcV)[i * 3 + j]? = (pcV xs[i])[j]? := by
      intro j hj
      have : xs = xs.take i ++ xs[i] :: xs.drop (i + 1) := by simp
      conv => lhs; rw [this]
      have hl : ∀ l : List Lx, (l.flatMap pcV).length = l.length * 3 := fun l => by
        induction l with
        | nil => rfl
        | cons x l ih => rw [List.flatMap_cons, List.length_append, ih]; simp [pcV]; omega
      rw [List.flatMap_append, List.getElem?_append_right (by rw [hl]; simp; omega), hl, List.flatMap_cons, List.getElem?_append_left (by simp [pcV]; omega)]
      congr 1
      simp; omega
    have hc : ∀ j u, (xs.flatMap pcV)[j]? = some u → W.cell? ⟨g, j, none⟩ = some u := fun j u hu => h.row.cells rfl hu
    refine ⟨g, cap, rfl, (Array.getElem?_eq_some_iff.1 hg).1, hc _ _ ?_, hc _ _ ?_, hc _ _ ?_⟩
    · have := hfl 0 (by omega); rw [Nat.add_zero] at this; exact this
    · exact hfl 1 (by omega)
    · exact hfl 2 (by omega)
theorem PaSt.form (h : PaSt w B b1 b2 V tot xs pv st nv W) : ∃ a c, pv = .slice a xs.length c := by
  rcases h.row.own.2 with ⟨h1, h2⟩ | ⟨g, cap, cur, h1, _⟩
  · exact ⟨none, 0, by rw [h1, h2]⟩
  · exact ⟨_, _, h1⟩
end
end Go.Proofs.YthfciekhmbfmfaaGreatDoor
