import Derived.Test.YtdigiaigbcfccaaGreatDoorSameAll
import Derived.Test.YtdigiaigbcfccaaGreatDoorMeas
import Derived.Laws.OwnMore
namespace Go.Proofs.YtdigiaigbcfccaaGreatDoor
open Go.RowKit Go
open Classical
attribute [local go_sem] monoUpon Yld.says

set_option maxRecDepth 100000 in
set_option maxHeartbeats 1000000 in
theorem refSame_any (T : Tr) : ∀ (U : Tr) (v u : Value) (w : World), IsT w.heap.size w T v → IsT w.heap.size w U u →
    Calls Tryz.prog 25 #[v, u] w fun e w' => e = .returned (.bool (eqT T U)) ∧ Below w.heap.size w w' := by
  induction T using Tr.ind with
  | h k n s l ih =>
    intro U v u w hv hu
    cases U with
    | node k' n' s' l' =>
    obtain ⟨a, c, rfl, _, _, _, hlc, hcm, hl⟩ := hv.open
    obtain ⟨a', c', rfl, _, _, _, hlc', hcm', hl'⟩ := hu.open
    have HI := Lib.hid ih
    clear ih hv hu
    unfold maxLen at hcm hcm'
    by_cases htop : k = k' ∧ n = n' ∧ s = s' ∧ l.length = l'.length
    · obtain ⟨rfl, rfl, rfl, hlen⟩ := htop
      have hlen1 : l'.length ≤ l.length := by omega
      have hlen2 : l.length ≤ l'.length := by omega
      have hle : (((l.length : Nat) : Int) != (l'.length : Nat)) = false := by simp [hlen]
      clear hlen
      by_cases h0 : 0 < l.length
      · obtain ⟨b, off, rfl, hb⟩ := hl.addr h0
        obtain ⟨b', off', rfl, hb'⟩ := hl'.addr (by omega)
        go_enter Tryz.func25, Tryz.ntmps25
        go_wp2_with fail
        have b1 : Box ((w.alloc (.cells #[.int .i64 k, .int .i64 n, .string s, .slice (some ⟨b, off, none⟩) l.length c] 24)).alloc (.cells #[.int .i64 k, .int .i64 n, .string s, .slice (some ⟨b', off', none⟩) l'.length c'] 24)) w.heap.size #[.int .i64 k, .int .i64 n, .string s, .slice (some ⟨b, off, none⟩) l.length c] 24 := (Box.at rfl).alloc _
        have b2 : Box ((w.alloc (.cells #[.int .i64 k, .int .i64 n, .string s, .slice (some ⟨b, off, none⟩) l.length c] 24)).alloc (.cells #[.int .i64 k, .int .i64 n, .string s, .slice (some ⟨b', off', none⟩) l'.length c'] 24)) (w.heap.size + 1) #[.int .i64 k, .int .i64 n, .string s, .slice (some ⟨b', off', none⟩) l'.length c'] 24 := Box.at (by simp)
        have hB0 := below_a2 (Nat.le_refl w.heap.size) (.cells #[.int .i64 k, .int .i64 n, .string s, .slice (some ⟨b, off, none⟩) l.length c] 24) (.cells #[.int .i64 k, .int .i64 n, .string s, .slice (some ⟨b', off', none⟩) l'.length c'] 24)
        generalize (w.alloc (.cells #[.int .i64 k, .int .i64 n, .string s, .slice (some ⟨b, off, none⟩) l.length c] 24)).alloc (.cells #[.int .i64 k, .int .i64 n, .string s, .slice (some ⟨b', off', none⟩) l'.length c'] 24) = W1 at *
        go_loopw [5] (fun i wr => ∃ j : Nat, j ≤ l.length ∧ i = .int .i64 j ∧ l.take j = l'.take j ∧ Ext W1 wr) (fun i _ => l.length - (intOf i).toNat)
        case atStart => exact ⟨0, Nat.zero_le _, rfl, rfl, Ext.refl _⟩
        case round =>
          obtain ⟨j, hj, rfl, htk, hX⟩ := hrel
          have Htk := Lib.hid htk
          clear htk
          have hBw := hB0.trans (Below.mono hX hB0.size)
          have x3 := (Box.keep hX b1).cell 3
          have y3 := (Box.keep hX b2).cell 3
          have xl := (Box.keep hX b1).lt
          have yl := (Box.keep hX b2).lt
          simp only [List.getElem?_toArray, List.getElem?_cons_succ, List.getElem?_cons_zero] at x3 y3
          by_cases hlt : j < l.length
          · have hlt' : j < l'.length := by omega
            obtain ⟨tk, tn, ts, tl, ta, tc, te, c0, c1, c2, c3, ht⟩ := hl.node' hb hBw j hlt
            obtain ⟨uk, un, us, ul, ua, uc, ue, d0, d1, d2, d3, hu⟩ := hl'.node' hb' hBw j hlt'
            replace ht := ht.below hBw
            replace hu := hu.below hBw
            have Te := Lib.hid te
            have Ue := Lib.hid ue
            clear te ue
            have hbw : b < wr.heap.size := by have := hBw.size; omega
            have hbw' : b' < wr.heap.size := by have := hBw.size; omega
            by_cases heq : l[j] = l'[j]
            · have Heq : Hid (eqT l[j] l'[j] = true) := by simp [Hid, eqT, heq]
              have htk' : Hid (l.take (j + 1) = l'.take (j + 1)) := by
                unfold Hid
                rw [List.take_succ_eq_append_getElem hlt, List.take_succ_eq_append_getElem hlt', Htk.out, heq]
              clear heq Htk
              go_wp2_with fail
              apply wp_region_mono [.det _, .det _, .det _, .det _, .det _, .det _, .det _, .det _, .det _, .det _, .det _, .det _] (by kernel_rfl) (by kernel_rfl)
              rotate_left
              · iterate 10 (
                  refine wpM_step (fun K hK => ?_)
                  go_simp
                  apply And.intro
                  · intro w' hC _
                    have q1 := hC.old.1
                    have hbs := hC.old.2.2
                    clear hC
                    go_simp
                    exact ⟨Ext.refl _, rfl⟩
                  refine nextM_det (hK _ _ ?_)
                  clear hK K)
                refine wpM_step (fun K hK => ?_)
                go_simp
                apply And.intro
                · intro w' hC _
                  go_simp
                  refine ⟨Ext.refl _, (HI.out _ (List.getElem_mem hlt) _ _ _ _ (ht.up (Below.mono hC hBw.size) (Nat.le_trans hBw.size hC.old.2.2)) (hu.up (Below.mono hC hBw.size) (Nat.le_trans hBw.size hC.old.2.2))).mono ?_⟩
                  rintro e w1 ⟨rfl, hB1⟩
                  exact ⟨congrArg (fun b => Ending.returned (Value.bool b)) Heq.out, hB1⟩
                refine nextM_det (hK _ _ ?_)
                clear hK K
                iterate 1 (
                  refine wpM_step (fun K hK => ?_)
                  go_simp
                  apply And.intro
                  · intro w' hC _
                    have q1 := hC.old.1
                    have hbs := hC.old.2.2
                    clear hC
                    go_simp
                    exact ⟨Ext.refl _, rfl⟩
                  refine nextM_det (hK _ _ ?_)
                  clear hK K)
                refine wpM_nil ?_
                intro w1 hC1 _
                have hB2 := hX.trans hC1
                clear hC1 c0 c1 c2 c3 d0 d1 d2 d3 x3 y3
                go_wp2_with fail
                go_roundw
                case rel => exact ⟨j + 1, hlt, by go_num, htk'.out, hB2⟩
                case measure => simp [intOf]; omega
              · intro y hy
                simp only [List.mem_cons, List.not_mem_nil, or_false] at hy
                rcases hy with rfl | rfl | rfl | rfl | rfl | rfl | rfl | rfl | rfl | rfl | rfl | rfl <;> first | trivial
            · have Heq : Hid (eqT l[j] l'[j] = false) := by simp [Hid, eqT, heq]
              have hne : Hid (eqT (.node k n s l) (.node k n s l') = false) := by
                simp only [Hid, eqT, decide_eq_false_iff_not, Tr.node.injEq]
                rintro ⟨_, _, _, e⟩
                subst e
                exact heq rfl
              clear heq Htk
              go_wp2_with fail
              apply wp_region_mono [.det _, .det _, .det _, .det _, .det _, .det _, .det _, .det _, .det _, .det _, .det _, .det _] (by kernel_rfl) (by kernel_rfl)
              rotate_left
              · iterate 10 (
                  refine wpM_step (fun K hK => ?_)
                  go_simp
                  apply And.intro
                  · intro w' hC _
                    have q1 := hC.old.1
                    have hbs := hC.old.2.2
                    clear hC
                    go_simp
                    exact ⟨Ext.refl _, rfl⟩
                  refine nextM_det (hK _ _ ?_)
                  clear hK K)
                refine wpM_step (fun K hK => ?_)
                go_simp
                apply And.intro
                · intro w' hC _
                  go_simp
                  refine ⟨Ext.refl _, (HI.out _ (List.getElem_mem hlt) _ _ _ _ (ht.up (Below.mono hC hBw.size) (Nat.le_trans hBw.size hC.old.2.2)) (hu.up (Below.mono hC hBw.size) (Nat.le_trans hBw.size hC.old.2.2))).mono ?_⟩
                  rintro e w1 ⟨rfl, hB1⟩
                  exact ⟨congrArg (fun b => Ending.returned (Value.bool b)) Heq.out, hB1⟩
                refine nextM_det (hK _ _ ?_)
                clear hK K
                iterate 1 (
                  refine wpM_step (fun K hK => ?_)
                  go_simp
                  apply And.intro
                  · intro w' hC _
                    have q1 := hC.old.1
                    have hbs := hC.old.2.2
                    clear hC
                    go_simp
                    exact ⟨Ext.refl _, rfl⟩
                  refine nextM_det (hK _ _ ?_)
                  clear hK K)
                refine wpM_nil ?_
                intro w1 hC1 _
                have hB2 := hX.trans hC1
                clear hC1 c0 c1 c2 c3 d0 d1 d2 d3 x3 y3
                go_wp2_with fail
                go_ret
                exact ⟨retB hne.out, hB0.trans (Below.mono hB2 hB0.size)⟩
              · intro y hy
                simp only [List.mem_cons, List.not_mem_nil, or_false] at hy
                rcases hy with rfl | rfl | rfl | rfl | rfl | rfl | rfl | rfl | rfl | rfl | rfl | rfl <;> first | trivial
          · go_wp2_with fail
            go_ret
            refine ⟨retB ?_, hBw⟩
            have e : l = l' := by
              have := Htk.out
              rwa [List.take_of_length_le (by omega), List.take_of_length_le (by omega)] at this
            simp [eqT, e]
      · have e1 : l = [] := List.length_eq_zero_iff.1 (by omega)
        have e2 : l' = [] := List.length_eq_zero_iff.1 (by omega)
        subst e1 e2
        have hne : Hid (eqT (.node k n s []) (.node k n s []) = true) := by simp [Hid, eqT]
        clear h0
        simp only [List.length_nil]
        go_enter Tryz.func25, Tryz.ntmps25
        go_wp2_with fail
        refine wp_loop_rounds 1 ?_
        rw [rounds_succ]
        go_wp2_with fail
        go_ret
        exact ⟨retB hne.out, below_box2 _ _ _⟩
    · have hr : Hid (eqT (.node k n s l) (.node k' n' s' l') = false) := by
        simp only [Hid, eqT, decide_eq_false_iff_not, Tr.node.injEq]
        rintro ⟨rfl, rfl, rfl, rfl⟩
        exact htop ⟨rfl, rfl, rfl, rfl⟩
      by_cases h1 : k = k'
      · by_cases h2 : n = n'
        · by_cases h3 : s = s'
          · have h4 : (((l.length : Nat) : Int) != (l'.length : Nat)) = true := by
              simp only [bne_iff_ne]
              intro e
              exact htop ⟨h1, h2, h3, by omega⟩
            subst h1 h2 h3
            clear htop
            go_enter Tryz.func25, Tryz.ntmps25
            go_wp2_with fail
            go_ret
            exact ⟨retB hr.out, below_box2 _ _ _⟩
          · have h3' : (s.toList == s'.toList) = false := bytes_ne h3
            subst h1 h2
            clear htop h3
            go_enter Tryz.func25, Tryz.ntmps25
            go_wp2_with fail
            go_ret
            exact ⟨retB hr.out, below_box2 _ _ _⟩
        · have h2' : (n != n') = true := by simpa using h2
          subst h1
          clear htop h2
          go_enter Tryz.func25, Tryz.ntmps25
          go_wp2_with fail
          go_ret
          exact ⟨retB hr.out, below_box2 _ _ _⟩
      · have h1' : (k != k') = true := by simpa using h1
        clear htop h1
        go_enter Tryz.func25, Tryz.ntmps25
        go_wp2_with fail
        go_ret
        exact ⟨retB hr.out, below_box2 _ _ _⟩

theorem refSameAll (l l' : List Tr) (v v' : Value) (w : World) (hv : IsS w.heap.size w l v) (hu : IsS w.heap.size w l' v') :
    Calls Tryz.prog 29 #[v, v'] w fun e w' => e = .returned (.bool (eqLT l l')) ∧ Below w.heap.size w w' := by
  obtain ⟨a, c, rfl, h1, h2, h3⟩ := hv
  obtain ⟨a', c', rfl, h1', h2', h3'⟩ := hu
  exact refSameAll_any l l' a a' c c' w (Nat.le_trans h1 h2) (Nat.le_trans h1' h2') h3 h3' (fun t _ u v v' W h h' => refSame_any t u v v' W h h')
end Go.Proofs.YtdigiaigbcfccaaGreatDoor

namespace Go.Proofs.YtdigiaigbcfccaaGreatDoor
open Go.RowKit Go

def emp : ByteArray := ⟨#[]⟩
def tV (n : Int) : Tr := .node 1 n emp []
def tA (s : ByteArray) : Tr := .node 3 0 s []
def tF (s : ByteArray) (l : List Tr) : Tr := .node 5 0 s l

theorem lawV_any (n : Int) (hn : okI n) (w : World) : Calls Tryz.prog 19 #[.int .i64 n] w fun e w' => ∃ v, e = .returned v ∧ IsT w'.heap.size w' (tV n) v ∧ Below w.heap.size w w' := by
  have hI : ∀ W, IsT W.heap.size W (tV n) (.agg #[.int .i64 1, .int .i64 n, .string ⟨#[]⟩, .slice none 0 0]) := fun W => IsT.mk (l := []) (by unfold okI; omega) hn (by decide) (Nat.le_refl _) (by decide) IsL.nil
  have HI := Lib.hid hI
  clear hI
  go_enter Tryz.func19, Tryz.ntmps19
  go_wp2_with fail
  exact bodyPost_ret (v := .agg #[.int .i64 1, .int .i64 n, .string ⟨#[]⟩, .slice none 0 0]) (by simp [results, Tryz.results19, go_sem]) rfl ⟨_, rfl, HI.out _, below_a1 (Nat.le_refl _) _⟩

theorem lawA_any (s : ByteArray) (hs : s.size ≤ maxLen) (w : World) : Calls Tryz.prog 20 #[.string s] w fun e w' => ∃ v, e = .returned v ∧ IsT w'.heap.size w' (tA s) v ∧ Below w.heap.size w w' := by
  have hI : ∀ W, IsT W.heap.size W (tA s) (.agg #[.int .i64 3, .int .i64 0, .string s, .slice none 0 0]) := fun W => IsT.mk (l := []) (by unfold okI; omega) (by unfold okI; omega) hs (Nat.le_refl _) (by decide) IsL.nil
  have HI := Lib.hid hI
  clear hI
  go_enter Tryz.func20, Tryz.ntmps20
  go_wp2_with fail
  exact bodyPost_ret (v := .agg #[.int .i64 3, .int .i64 0, .string s, .slice none 0 0]) (by simp [results, Tryz.results20, go_sem]) rfl ⟨_, rfl, HI.out _, below_a1 (Nat.le_refl _) _⟩

theorem lawF_any (s : ByteArray) (hs : s.size ≤ maxLen) (l : List Tr) (v : Value) (w : World) (hl : IsS w.heap.size w l v) : Calls Tryz.prog 18 #[.string s, v] w fun e w' => ∃ v, e = .returned v ∧ IsT w'.heap.size w' (tF s l) v ∧ Below w.heap.size w w' := by
  obtain ⟨a, c, rfl, h1, h2, h3⟩ := hl
  have hI : ∀ W, Below w.heap.size w W → IsT W.heap.size W (tF s l) (.agg #[.int .i64 5, .int .i64 0, .string s, .slice a l.length c]) := fun W hB => IsT.mk (by unfold okI; omega) (by unfold okI; omega) hs h1 h2 (h3.up hB hB.size)
  have HI := Lib.hid hI
  clear hI h3
  go_enter Tryz.func18, Tryz.ntmps18
  go_wp2_with fail
  exact bodyPost_ret (v := .agg #[.int .i64 5, .int .i64 0, .string s, .slice a l.length c]) (by simp [results, Tryz.results18, go_sem]) rfl ⟨_, rfl, HI.out _ (below_a1 (Nat.le_refl _) _), below_a1 (Nat.le_refl _) _⟩
end Go.Proofs.YtdigiaigbcfccaaGreatDoor

/- Trees in blocks of which something is known: what is new lies in new blocks. -/
namespace Go.Proofs.YtdigiaigbcfccaaGreatDoor
open Go.RowKit Go

mutual
/-- The value v is the tree, in blocks for which p holds. -/
def IsP (p : Nat → Prop) (W : World) : Tr → Value → Prop
  | .node k n s l, v => ∃ (a : Option Addr) (c : Nat), v = .agg #[.int .i64 k, .int .i64 n, .string s, .slice a l.length c] ∧ okI k ∧ okI n ∧ s.size ≤ maxLen ∧ l.length ≤ c ∧ c ≤ maxLen ∧ IsPL p W l a
def IsPL (p : Nat → Prop) (W : World) : List Tr → Option Addr → Prop
  | [], _ => True
  | t :: ts, a => ∃ (b off : Nat) (v0 v1 v2 v3 : Value), a = some ⟨b, off, none⟩ ∧ p b ∧ W.cell? ⟨b, off, none⟩ = some v0 ∧ W.cell? ⟨b, off + 1, none⟩ = some v1 ∧ W.cell? ⟨b, off + 2, none⟩ = some v2 ∧
      W.cell? ⟨b, off + 3, none⟩ = some v3 ∧ IsP p W t (.agg #[v0, v1, v2, v3]) ∧ IsPL p W ts (some ⟨b, off + 4, none⟩)
end
def IsPS (p : Nat → Prop) (W : World) (l : List Tr) (v : Value) : Prop :=
  ∃ (a : Option Addr) (c : Nat), v = .slice a l.length c ∧ l.length ≤ c ∧ c ≤ maxLen ∧ IsPL p W l a

mutual
theorem IsP.map {p q : Nat → Prop} {A B : World} (h : ∀ b, p b → q b ∧ B.heap[b]? = A.heap[b]?) : ∀ (T : Tr) (v : Value), IsP p A T v → IsP q B T v
  | .node _ _ _ l, _, h1 => by
    unfold IsP at h1 ⊢
    obtain ⟨a, c, e, h2, h3, h4, h5, h6, h7⟩ := h1
    exact ⟨a, c, e, h2, h3, h4, h5, h6, IsPL.map h l a h7⟩
theorem IsPL.map {p q : Nat → Prop} {A B : World} (h : ∀ b, p b → q b ∧ B.heap[b]? = A.heap[b]?) : ∀ (l : List Tr) (a : Option Addr), IsPL p A l a → IsPL q B l a
  | [], _, _ => by unfold IsPL; trivial
  | t :: ts, _, h1 => by
    unfold IsPL at h1 ⊢
    obtain ⟨b, off, v0, v1, v2, v3, e, hb, c0, c1, c2, c3, ht, hl⟩ := h1
    have hh := (h b hb).2
    exact ⟨b, off, v0, v1, v2, v3, e, (h b hb).1, (World.cell?_of_block (a := ⟨b, off, none⟩) hh).trans c0, (World.cell?_of_block (a := ⟨b, off + 1, none⟩) hh).trans c1, (World.cell?_of_block (a := ⟨b, off + 2, none⟩) hh).trans c2,
      (World.cell?_of_block (a := ⟨b, off + 3, none⟩) hh).trans c3, IsP.map h t _ ht, IsPL.map h ts _ hl⟩
end
mutual
theorem IsP.toT {p : Nat → Prop} {n₀ : Nat} {A : World} (h : ∀ b, p b → b < n₀) : ∀ (T : Tr) (v : Value), IsP p A T v → IsT n₀ A T v
  | .node _ _ _ l, _, h1 => by
    unfold IsP at h1
    unfold IsT
    obtain ⟨a, c, e, h2, h3, h4, h5, h6, h7⟩ := h1
    exact ⟨a, c, e, h2, h3, h4, h5, h6, IsPL.toL h l a h7⟩
theorem IsPL.toL {p : Nat → Prop} {n₀ : Nat} {A : World} (h : ∀ b, p b → b < n₀) : ∀ (l : List Tr) (a : Option Addr), IsPL p A l a → IsL n₀ A l a
  | [], _, _ => by unfold IsL; trivial
  | t :: ts, _, h1 => by
    unfold IsPL at h1
    unfold IsL
    obtain ⟨b, off, v0, v1, v2, v3, e, hb, c0, c1, c2, c3, ht, hl⟩ := h1
    exact ⟨b, off, v0, v1, v2, v3, e, h b hb, c0, c1, c2, c3, IsP.toT h t _ ht, IsPL.toL h ts _ hl⟩
end
mutual
theorem IsT.toP {n₀ : Nat} {A : World} : ∀ (T : Tr) (v : Value), IsT n₀ A T v → IsP (· < n₀) A T v
  | .node _ _ _ l, _, h1 => by
    unfold IsT at h1
    unfold IsP
    obtain ⟨a, c, e, h2, h3, h4, h5, h6, h7⟩ := h1
    exact ⟨a, c, e, h2, h3, h4, h5, h6, IsL.toP l a h7⟩
theorem IsL.toP {n₀ : Nat} {A : World} : ∀ (l : List Tr) (a : Option Addr), IsL n₀ A l a → IsPL (· < n₀) A l a
  | [], _, _ => by unfold IsPL; trivial
  | t :: ts, _, h1 => by
    unfold IsL at h1
    unfold IsPL
    obtain ⟨b, off, v0, v1, v2, v3, e, hb, c0, c1, c2, c3, ht, hl⟩ := h1
    exact ⟨b, off, v0, v1, v2, v3, e, hb, c0, c1, c2, c3, IsT.toP t _ ht, IsL.toP ts _ hl⟩
end
theorem IsP.open {p : Nat → Prop} {W : World} {k n : Int} {s : ByteArray} {l : List Tr} {v : Value} (h : IsP p W (.node k n s l) v) :
    ∃ (a : Option Addr) (c : Nat), v = .agg #[.int .i64 k, .int .i64 n, .string s, .slice a l.length c] ∧ okI k ∧ okI n ∧ s.size ≤ maxLen ∧ l.length ≤ c ∧ c ≤ maxLen ∧ IsPL p W l a := by
  unfold IsP at h; exact h
theorem IsP.mk {p : Nat → Prop} {W : World} {k n : Int} {s : ByteArray} {l : List Tr} {a : Option Addr} {c : Nat} (h1 : okI k) (h2 : okI n) (h3 : s.size ≤ maxLen) (h4 : l.length ≤ c) (h5 : c ≤ maxLen) (h6 : IsPL p W l a) :
    IsP p W (.node k n s l) (.agg #[.int .i64 k, .int .i64 n, .string s, .slice a l.length c]) := by
  unfold IsP; exact ⟨a, c, rfl, h1, h2, h3, h4, h5, h6⟩
theorem IsPL.nil {p : Nat → Prop} {W : World} {a : Option Addr} : IsPL p W [] a := by unfold IsPL; trivial
theorem IsPL.of_get {p : Nat → Prop} {W : World} : ∀ {l : List Tr} {b off : Nat}, p b → (∀ i (hi : i < l.length), ∃ v0 v1 v2 v3, W.cell? ⟨b, off + i * 4, none⟩ = some v0 ∧ W.cell? ⟨b, off + i * 4 + 1, none⟩ = some v1 ∧
    W.cell? ⟨b, off + i * 4 + 2, none⟩ = some v2 ∧ W.cell? ⟨b, off + i * 4 + 3, none⟩ = some v3 ∧ IsP p W l[i] (.agg #[v0, v1, v2, v3])) → IsPL p W l (some ⟨b, off, none⟩)
  | [], _, _, _, _ => IsPL.nil
  | t :: ts, b, off, hb, h => by
    unfold IsPL
    obtain ⟨v0, v1, v2, v3, c0, c1, c2, c3, ht⟩ := h 0 (by simp)
    refine ⟨b, off, v0, v1, v2, v3, rfl, hb, by simpa using c0, by simpa using c1, by simpa using c2, by simpa using c3, by simpa using ht, IsPL.of_get hb fun i hi => ?_⟩
    obtain ⟨u0, u1, u2, u3, d0, d1, d2, d3, hu⟩ := h (i + 1) (by simpa using hi)
    have e0 : off + (i + 1) * 4 = off + 4 + i * 4 := by omega
    rw [e0] at d0 d1 d2 d3
    exact ⟨u0, u1, u2, u3, d0, d1, d2, d3, by simpa using hu⟩

/-- The blocks that are new since a number. -/
def New (lo : Nat) (W : World) (b : Nat) : Prop := lo ≤ b ∧ b < W.heap.size
theorem New.toT {lo : Nat} {W : World} {T : Tr} {v : Value} (h : IsP (New lo W) W T v) : IsT W.heap.size W T v := IsP.toT (fun _ h => h.2) T v h
theorem New.below {lo lo' : Nat} {A B : World} {T : Tr} {v : Value} (h : IsP (New lo A) A T v) (hB : Below A.heap.size A B) (hl : lo' ≤ lo) : IsP (New lo' B) B T v :=
  IsP.map (fun b hb => ⟨⟨Nat.le_trans hl hb.1, Nat.lt_of_lt_of_le hb.2 hB.size⟩, hB.block b hb.2⟩) T v h

/-- The cells of a row of trees, as far as they have been laid. -/
def Laid (W : World) (lo : Nat) (cs : Array Value) (l : List Tr) : Prop := ∀ i (hi : i < l.length), ∃ v0 v1 v2 v3, cs[i * 4]? = some v0 ∧ cs[i * 4 + 1]? = some v1 ∧ cs[i * 4 + 2]? = some v2 ∧ cs[i * 4 + 3]? = some v3 ∧ IsP (New lo W) W l[i] (.agg #[v0, v1, v2, v3])
theorem Laid.keep {A B : World} {lo : Nat} {cs : Array Value} {l : List Tr} (h : Laid A lo cs l) (hs : A.heap.size ≤ B.heap.size) (hb : ∀ b, lo ≤ b → b < A.heap.size → B.heap[b]? = A.heap[b]?) : Laid B lo cs l := fun i hi => by
  obtain ⟨v0, v1, v2, v3, c0, c1, c2, c3, ht⟩ := h i hi
  exact ⟨v0, v1, v2, v3, c0, c1, c2, c3, IsP.map (fun b hb' => ⟨⟨hb'.1, Nat.lt_of_lt_of_le hb'.2 hs⟩, hb b hb'.1 hb'.2⟩) _ _ ht⟩
theorem Laid.snoc {W : World} {lo : Nat} {cs : Array Value} {l : List Tr} {t : Tr} {a0 a1 a2 a3 : Value} (h : Laid W lo cs l) (hsz : l.length * 4 + 4 ≤ cs.size) (ht : IsP (New lo W) W t (.agg #[a0, a1, a2, a3])) :
    Laid W lo ((((cs.setIfInBounds (l.length * 4) a0).setIfInBounds (l.length * 4 + 1) a1).setIfInBounds (l.length * 4 + 2) a2).setIfInBounds (l.length * 4 + 3) a3) (l ++ [t]) := fun i hi => by
  simp only [List.length_append, List.length_cons, List.length_nil] at hi
  by_cases hlt : i < l.length
  · obtain ⟨v0, v1, v2, v3, c0, c1, c2, c3, hT⟩ := h i hlt
    refine ⟨v0, v1, v2, v3, ?_, ?_, ?_, ?_, by rw [List.getElem_append_left hlt]; exact hT⟩
    · rw [Array.getElem?_setIfInBounds_ne (by omega), Array.getElem?_setIfInBounds_ne (by omega), Array.getElem?_setIfInBounds_ne (by omega), Array.getElem?_setIfInBounds_ne (by omega), c0]
    · rw [Array.getElem?_setIfInBounds_ne (by omega), Array.getElem?_setIfInBounds_ne (by omega), Array.getElem?_setIfInBounds_ne (by omega), Array.getElem?_setIfInBounds_ne (by omega), c1]
    · rw [Array.getElem?_setIfInBounds_ne (by omega), Array.getElem?_setIfInBounds_ne (by omega), Array.getElem?_setIfInBounds_ne (by omega), Array.getElem?_setIfInBounds_ne (by omega), c2]
    · rw [Array.getElem?_setIfInBounds_ne (by omega), Array.getElem?_setIfInBounds_ne (by omega), Array.getElem?_setIfInBounds_ne (by omega), Array.getElem?_setIfInBounds_ne (by omega), c3]
  · have e : i = l.length := by omega
    subst e
    refine ⟨a0, a1, a2, a3, ?_, ?_, ?_, ?_, by rw [List.getElem_append_right (Nat.le_refl _)]; simpa using ht⟩
    · rw [Array.getElem?_setIfInBounds_ne (by omega), Array.getElem?_setIfInBounds_ne (by omega), Array.getElem?_setIfInBounds_ne (by omega), Array.getElem?_setIfInBounds_self_of_lt (by omega)]
    · rw [Array.getElem?_setIfInBounds_ne (by omega), Array.getElem?_setIfInBounds_ne (by omega), Array.getElem?_setIfInBounds_self_of_lt (by simp; omega)]
    · rw [Array.getElem?_setIfInBounds_ne (by omega), Array.getElem?_setIfInBounds_self_of_lt (by simp; omega)]
    · rw [Array.getElem?_setIfInBounds_self_of_lt (by simp; omega)]
theorem Laid.done {W : World} {B : Nat} {cs : Array Value} {l : List Tr} (h : Laid W (B + 1) cs l) (hB : Box W B cs 24) : IsPL (New B W) W l (some ⟨B, 0, none⟩) :=
  IsPL.of_get ⟨Nat.le_refl _, hB.lt⟩ fun i hi => by
    obtain ⟨v0, v1, v2, v3, c0, c1, c2, c3, ht⟩ := h i hi
    refine ⟨v0, v1, v2, v3, ?_, ?_, ?_, ?_, IsP.map (fun b hb => ⟨⟨by have := hb.1; omega, hb.2⟩, rfl⟩) _ _ ht⟩
    · rw [hB.cell, Nat.zero_add]; exact c0
    · rw [hB.cell, Nat.zero_add]; exact c1
    · rw [hB.cell, Nat.zero_add]; exact c2
    · rw [hB.cell, Nat.zero_add]; exact c3
end Go.Proofs.YtdigiaigbcfccaaGreatDoor
