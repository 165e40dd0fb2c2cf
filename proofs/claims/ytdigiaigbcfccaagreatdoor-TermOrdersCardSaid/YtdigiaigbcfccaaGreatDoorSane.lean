import Derived.Test.YtdigiaigbcfccaaGreatDoorSaneM
namespace Go.Proofs.YtdigiaigbcfccaaGreatDoor
open Go.RowKit Go

attribute [local go_sem] monoUpon Yld.says

def IsTr (T : Tr) (u : Value) (W : World) : Prop := IsT W.heap.size W T u
theorem IsTr.stable (T : Tr) : (Yld.any (IsTr T)).stable := fun _ _ _ he h => IsT.up h he (Below.size he)
def IsSl (l : List Tr) (u : Value) (W : World) : Prop := IsS W.heap.size W l u
theorem IsSl.stable (l : List Tr) : (Yld.any (IsSl l)).stable := fun _ _ _ he h => IsS.up h he (Below.size he)
def IsRd (l : List Int) (u : Value) (W : World) : Prop := RdN W.heap.size W l u
theorem IsRd.stable (l : List Int) : (Yld.any (IsRd l)).stable := fun _ _ _ he h => RdN.up h he (Below.size he)
def IsRdd (l : List (List Int)) (u : Value) (W : World) : Prop := RdNN W.heap.size W l u
theorem IsRdd.stable (l : List (List Int)) : (Yld.any (IsRdd l)).stable := fun _ _ _ he h => RdNN.up h he (Below.size he)
theorem tr_form {T : Tr} {u : Value} {W : World} (h : IsTr T u W) : ∃ k n s a m c, u = .agg #[.int .i64 k, .int .i64 n, .string s, .slice a m c] := by
  cases T with
  | node k n s l => obtain ⟨a, c, rfl, _⟩ := (show IsT _ W (.node k n s l) u from h).open; exact ⟨_, _, _, _, _, _, rfl⟩
theorem rd_form {l : List Int} {u : Value} {W : World} (h : IsRd l u W) : ∃ a m c, u = .slice a m c := by
  obtain ⟨a, c, rfl, _⟩ := h; exact ⟨_, _, _, rfl⟩
theorem rd_made {W : World} (l : List Int) (hl : l.length ≤ 1000000) : IsRd l (.slice (some ⟨W.heap.size, 0, none⟩) l.length l.length) (W.alloc (.cells (l.map (Value.int .i64)).toArray 3)) := by
  have hb : Box (W.alloc (.cells (l.map (Value.int .i64)).toArray 3)) W.heap.size (l.map (Value.int .i64)).toArray 3 := Box.at rfl
  refine ⟨_, l.length, rfl, by unfold maxLen; omega, fun _ => ⟨W.heap.size, 0, rfl, by simp, fun j hj => ?_⟩⟩
  rw [Nat.zero_add, hb.cell]
  simp [List.getD, List.getElem?_eq_getElem hj]
theorem rdd_made5 {W : World} {l0 l1 l2 l3 l4 : List Int} {u0 u1 u2 u3 u4 : Value} (h0 : IsRd l0 u0 W) (h1 : IsRd l1 u1 W) (h2 : IsRd l2 u2 W) (h3 : IsRd l3 u3 W) (h4 : IsRd l4 u4 W) :
    IsRdd [l0, l1, l2, l3, l4] (.slice (some ⟨W.heap.size, 0, none⟩) 5 5) (W.alloc (.cells #[u0, u1, u2, u3, u4] 30)) := by
  have hb : Box (W.alloc (.cells #[u0, u1, u2, u3, u4] 30)) W.heap.size #[u0, u1, u2, u3, u4] 30 := Box.at rfl
  have up : ∀ {l : List Int} {u : Value}, IsRd l u W → RdN (W.alloc (.cells #[u0, u1, u2, u3, u4] 30)).heap.size (W.alloc (.cells #[u0, u1, u2, u3, u4] 30)) l u := fun h => RdN.up h (below_a1 (Nat.le_refl _) _) (size_a1 (Nat.le_refl _) _)
  refine ⟨_, 5, rfl, by unfold maxLen; simp, fun _ => ⟨W.heap.size, 0, rfl, by simp, fun j hj => ?_⟩⟩
  rw [Nat.zero_add, hb.cell]
  match j, hj with
  | 0, _ => exact ⟨u0, rfl, up h0⟩
  | 1, _ => exact ⟨u1, rfl, up h1⟩
  | 2, _ => exact ⟨u2, rfl, up h2⟩
  | 3, _ => exact ⟨u3, rfl, up h3⟩
  | 4, _ => exact ⟨u4, rfl, up h4⟩

set_option maxRecDepth 100000 in
set_option maxHeartbeats 8000000 in
theorem sane_any (w : World) (htab : Lib.TabBelow Tryz.prog w.heap.size w "internal/strconv.uint64pow10" .u64 Lib.pow10Tab) :
    Calls Tryz.prog 4 #[] w fun e w' => e = .returned (.bool true) ∧ Below w.heap.size w w' := by
  have hb := Below.refl w.heap.size w
  go_enter Tryz.func4, Tryz.ntmps4
  go_wp2_with fail
  refine (mkV 0 (by unfold okI; omega) _).mono ?_
  rintro e W18 ⟨a18, c18, rfl, h18, B⟩
  replace hb := hb.trans (B.mono hb.size)
  clear B
  go_wp2_with fail
  refine (mkA sa (by decide) _).mono ?_
  rintro e W19 ⟨a19, c19, rfl, h19, B⟩
  replace h18 := h18.up B B.size
  replace hb := hb.trans (B.mono hb.size)
  clear B
  go_wp2_with fail
  refine (mkA snil (by decide) _).mono ?_
  rintro e W20 ⟨a20, c20, rfl, h20, B⟩
  replace h18 := h18.up B B.size
  replace h19 := h19.up B B.size
  replace hb := hb.trans (B.mono hb.size)
  clear B
  go_wp2_with fail
  refine (mkF sdot (by decide) [tA sa, tA snil] 2 rfl _ _ (isS2 h19 h20)).mono ?_
  rintro e W22 ⟨a22, c22, rfl, h22, B⟩
  clear h19 h20
  replace B := up1 B
  replace h18 := h18.up B B.size
  replace hb := hb.trans (B.mono hb.size)
  clear B
  go_wp2_with fail
  refine (mkF sf (by decide) [tV 0, tF sdot [tA sa, tA snil]] 2 rfl _ _ (isS2 h18 h22)).mono ?_
  rintro e W24 ⟨a24, c24, rfl, h24, B⟩
  clear h18 h22
  replace B := up1 B
  replace hb := hb.trans (B.mono hb.size)
  clear B
  go_wp2_with fail
  refine (sane_size _ _ (h24.up (below_a1 (Nat.le_refl _) _) (size_a1 (Nat.le_refl _) _))).mono ?_
  rintro e W29 ⟨rfl, B⟩
  have p1 := Box.keep B (Box.at rfl)
  replace B := up1 B
  replace h24 := h24.up B B.size
  replace hb := hb.trans (B.mono hb.size)
  clear B
  go_wp2_with fail
  refine (mkA sa (by decide) _).mono ?_
  rintro e W31 ⟨a31, c31, rfl, h31, B⟩
  replace h24 := h24.up B B.size
  replace p1 := Box.keep B p1
  replace hb := hb.trans (B.mono hb.size)
  clear B
  go_wp2_with fail
  refine (mkF sg (by decide) [tA sa] 1 rfl _ _ (isS1 h31)).mono ?_
  rintro e W33 ⟨a33, c33, rfl, h33, B⟩
  clear h31
  replace B := up1 B
  replace h24 := h24.up B B.size
  replace p1 := Box.keep B p1
  replace hb := hb.trans (B.mono hb.size)
  clear B
  go_wp2_with fail
  refine (mkA sa (by decide) _).mono ?_
  rintro e W34 ⟨a34, c34, rfl, h34, B⟩
  replace h24 := h24.up B B.size
  replace h33 := h33.up B B.size
  replace p1 := Box.keep B p1
  replace hb := hb.trans (B.mono hb.size)
  clear B
  go_wp2_with fail
  refine (mkA sb (by decide) _).mono ?_
  rintro e W35 ⟨a35, c35, rfl, h35, B⟩
  replace h24 := h24.up B B.size
  replace h33 := h33.up B B.size
  replace h34 := h34.up B B.size
  replace p1 := Box.keep B p1
  replace hb := hb.trans (B.mono hb.size)
  clear B
  go_wp2_with fail
  refine (mkF sf (by decide) [tA sa, tA sb] 2 rfl _ _ (isS2 h34 h35)).mono ?_
  rintro e W37 ⟨a37, c37, rfl, h37, B⟩
  clear h34 h35
  replace B := up1 B
  replace h24 := h24.up B B.size
  replace h33 := h33.up B B.size
  replace p1 := Box.keep B p1
  replace hb := hb.trans (B.mono hb.size)
  clear B
  go_wp2_with fail
  refine (sane_cmp _ _ _ h33 h37).mono ?_
  rintro e W38 ⟨rfl, B⟩
  clear h33 h37
  replace h24 := h24.up B B.size
  replace p1 := Box.keep B p1
  replace hb := hb.trans (B.mono hb.size)
  clear B
  have q0 := p1.cell 0
  have q1 := p1.cell 1
  have q2 := p1.cell 2
  have q3 := p1.cell 3
  simp only [List.getElem?_toArray, List.getElem?_cons_succ, List.getElem?_cons_zero] at q0 q1 q2 q3
  go_wp2_with fail
  clear q0 q1 q2 q3
  refine (sane_paths _ _ h24).mono ?_
  rintro e W43 ⟨vl, rfl, hl, B⟩
  clear h24 p1
  replace hb := hb.trans (B.mono hb.size)
  clear B
  go_wp2_with fail
  refine (mkV 0 (by unfold okI; omega) _).mono ?_
  rintro e W47 ⟨a47, c47, rfl, h47, B⟩
  replace hl := hl.up B B.size
  replace hb := hb.trans (B.mono hb.size)
  clear B
  go_wp2_with fail
  refine (mkV 1 (by unfold okI; omega) _).mono ?_
  rintro e W48 ⟨a48, c48, rfl, h48, B⟩
  replace hl := hl.up B B.size
  replace h47 := h47.up B B.size
  replace hb := hb.trans (B.mono hb.size)
  clear B
  go_wp2_with fail
  refine (mkF sf (by decide) [tV 0, tV 1] 2 rfl _ _ (isS2 h47 h48)).mono ?_
  rintro e W50 ⟨a50, c50, rfl, h50, B⟩
  clear h47 h48
  replace B := up1 B
  replace hl := hl.up B B.size
  replace hb := hb.trans (B.mono hb.size)
  clear B
  go_wp2_with fail
  refine (mkV 1 (by unfold okI; omega) _).mono ?_
  rintro e W51 ⟨a51, c51, rfl, h51, B⟩
  replace hl := hl.up B B.size
  replace h50 := h50.up B B.size
  replace hb := hb.trans (B.mono hb.size)
  clear B
  go_wp2_with fail
  refine (mkF sg (by decide) [tV 1] 1 rfl _ _ (isS1 h51)).mono ?_
  rintro e W53 ⟨a53, c53, rfl, h53, B⟩
  clear h51
  replace B := up1 B
  replace hl := hl.up B B.size
  replace h50 := h50.up B B.size
  replace hb := hb.trans (B.mono hb.size)
  clear B
  go_wp2_with fail
  refine (mkA sa (by decide) _).mono ?_
  rintro e W54 ⟨a54, c54, rfl, h54, B⟩
  replace hl := hl.up B B.size
  replace h50 := h50.up B B.size
  replace h53 := h53.up B B.size
  replace hb := hb.trans (B.mono hb.size)
  clear B
  go_wp2_with fail
  refine (sane_subst _ _ _ (h50.up (below_a1 (Nat.le_refl _) _) (size_a1 (Nat.le_refl _) _)) (isS2 h53 h54)).mono ?_
  rintro e W56 ⟨a56, c56, rfl, h56, B⟩
  clear h50 h53 h54
  replace B := up1 B
  replace hl := hl.up B B.size
  replace hb := hb.trans (B.mono hb.size)
  clear B
  go_wp2_with fail
  have p8 : Box (W56.alloc (.cells #[.int .i64 5, .int .i64 0, .string sf, .slice a56 2 c56] 24)) W56.heap.size #[.int .i64 5, .int .i64 0, .string sf, .slice a56 2 c56] 24 := Box.at rfl
  replace hl := hl.up (below_a1 (Nat.le_refl _) (.cells #[.int .i64 5, .int .i64 0, .string sf, .slice a56 2 c56] 24)) (size_a1 (Nat.le_refl _) _)
  replace h56 := h56.up (below_a1 (Nat.le_refl _) (.cells #[.int .i64 5, .int .i64 0, .string sf, .slice a56 2 c56] 24)) (size_a1 (Nat.le_refl _) _)
  replace hb := hb.trans (below_a1 hb.size (.cells #[.int .i64 5, .int .i64 0, .string sf, .slice a56 2 c56] 24))
  generalize (W56.alloc (.cells #[.int .i64 5, .int .i64 0, .string sf, .slice a56 2 c56] 24)) = V6 at *
  have q0 := p8.cell 0
  have q1 := p8.cell 1
  have q2 := p8.cell 2
  have q3 := p8.cell 3
  simp only [List.getElem?_toArray, List.getElem?_cons_succ, List.getElem?_cons_zero] at q0 q1 q2 q3
  have l8 := p8.lt
  apply wp_region_mono [.det (.int .i64 5), .det (.bool false), .det (.bool false), .det (.int .i64 3), .det (.bool false), .det (.bool false), .det (.bool false), .det (.int .i64 (-1)), .det (.bool false), .det (.bool false), .det (.bool false), .det (.int .i64 0), .det (.bool false), .det (.bool false), .det (.bool false), .det (.int .i64 0), .det (.bool false), .det (.bool false), .det (.bool false), .det (vl), .any (IsRd []), .any (IsRd [0]), .any (IsRd [1]), .any (IsRd [1, 0]), .any (IsRd [1, 1]), .any (IsRdd [[], [0], [1], [1, 0], [1, 1]]), .det (.bool true), .det (.bool false), .det (.bool false), .det (.bool false), .det (.int .i64 0), .det (.bool false), .det (.bool false), .det (.bool false), .det (.agg #[.int .i64 5, .int .i64 0, .string sf, .slice a56 2 c56]), .any (IsTr (tV 1)), .any (IsSl [tV 1]), .any (IsTr (tF sg [tV 1])), .any (IsTr (tA sa)), .any (IsSl [tF sg [tV 1], tA sa]), .any (IsTr sR), .det (.bool true), .det (.bool false), .det (.bool false)] (by kernel_rfl) (by kernel_rfl)
  rotate_left
  · iterate 20 (
      refine wpM_step (fun K hK => ?_)
      go_simp
      apply And.intro
      · intro w' hC _
        have z1 := hC.old.1
        have hbs := hC.old.2.2
        clear hC
        go_simp
        exact Ext.refl _
      refine nextM_det (hK _ _ ?_)
      clear hK K)
    refine wpM_step (fun K hK => ?_)
    go_simp
    apply And.intro
    · intro w' hC hd
      clear hC hd
      go_simp
      exact ⟨below_a1 (Nat.le_refl _) _, rd_made [] (by decide)⟩
    refine nextM_any (fun y20 => hK _ _ ?_)
    clear hK K
    refine wpM_step (fun K hK => ?_)
    go_simp
    apply And.intro
    · intro w' hC hd
      clear hC hd
      go_simp
      exact ⟨below_a1 (Nat.le_refl _) _, rd_made [0] (by decide)⟩
    refine nextM_any (fun y21 => hK _ _ ?_)
    clear hK K
    refine wpM_step (fun K hK => ?_)
    go_simp
    apply And.intro
    · intro w' hC hd
      clear hC hd
      go_simp
      exact ⟨below_a1 (Nat.le_refl _) _, rd_made [1] (by decide)⟩
    refine nextM_any (fun y22 => hK _ _ ?_)
    clear hK K
    refine wpM_step (fun K hK => ?_)
    go_simp
    apply And.intro
    · intro w' hC hd
      clear hC hd
      go_simp
      exact ⟨below_a1 (Nat.le_refl _) _, rd_made [1, 0] (by decide)⟩
    refine nextM_any (fun y23 => hK _ _ ?_)
    clear hK K
    refine wpM_step (fun K hK => ?_)
    go_simp
    apply And.intro
    · intro w' hC hd
      clear hC hd
      go_simp
      exact ⟨below_a1 (Nat.le_refl _) _, rd_made [1, 1] (by decide)⟩
    refine nextM_any (fun y24 => hK _ _ ?_)
    clear hK K
    refine wpM_step (fun K hK => ?_)
    go_simp
    apply And.intro
    · intro w' hC hd
      have k20 : IsRd [] y20 w' := hd ⟨20, .data⟩ (by simp) rfl y20 rfl
      obtain ⟨a20, m20, c20, rfl⟩ := rd_form k20
      have k21 : IsRd [0] y21 w' := hd ⟨21, .data⟩ (by simp) rfl y21 rfl
      obtain ⟨a21, m21, c21, rfl⟩ := rd_form k21
      have k22 : IsRd [1] y22 w' := hd ⟨22, .data⟩ (by simp) rfl y22 rfl
      obtain ⟨a22, m22, c22, rfl⟩ := rd_form k22
      have k23 : IsRd [1, 0] y23 w' := hd ⟨23, .data⟩ (by simp) rfl y23 rfl
      obtain ⟨a23, m23, c23, rfl⟩ := rd_form k23
      have k24 : IsRd [1, 1] y24 w' := hd ⟨24, .data⟩ (by simp) rfl y24 rfl
      obtain ⟨a24, m24, c24, rfl⟩ := rd_form k24
      clear hC hd
      go_simp
      exact ⟨below_a1 (Nat.le_refl _) _, rdd_made5 k20 k21 k22 k23 k24⟩
    refine nextM_any (fun y25 => hK _ _ ?_)
    clear hK K
    refine wpM_step (fun K hK => ?_)
    go_simp
    apply And.intro
    · intro w' hC hd
      have k25 : IsRdd [[], [0], [1], [1, 0], [1, 1]] y25 w' := hd ⟨25, .data⟩ (by simp) rfl y25 rfl
      have kl : IsRdd [[], [0], [1], [1, 0], [1, 1]] vl w' := hl.up hC (Below.size hC)
      clear hC hd
      go_simp
      refine ⟨Ext.refl _, (sane_eqNN _ _ _ _ kl k25).mono ?_⟩
      rintro e w2 ⟨rfl, B⟩
      exact ⟨rfl, B⟩
    refine nextM_det (hK _ _ ?_)
    clear hK K
    iterate 8 (
      refine wpM_step (fun K hK => ?_)
      go_simp
      apply And.intro
      · intro w' hC _
        have z1 := hC.old.1
        have hbs := hC.old.2.2
        clear hC
        go_simp
        exact Ext.refl _
      refine nextM_det (hK _ _ ?_)
      clear hK K)
    refine wpM_step (fun K hK => ?_)
    go_simp
    apply And.intro
    · intro w' hC hd
      clear hC hd
      go_simp
      refine ⟨Ext.refl _, (mkV 1 (by unfold okI; omega) _).mono ?_⟩
      rintro e w2 ⟨a, c, rfl, h, B⟩
      exact ⟨_, rfl, B, h⟩
    refine nextM_any (fun y35 => hK _ _ ?_)
    clear hK K
    refine wpM_step (fun K hK => ?_)
    go_simp
    apply And.intro
    · intro w' hC hd
      have ky35 : IsTr (tV 1) y35 w' := hd ⟨35, .data⟩ (by simp) rfl y35 rfl
      obtain ⟨ky35, ny35, sy35, ay35, my35, cy35, rfl⟩ := tr_form ky35
      clear hC hd
      go_simp
      exact ⟨below_a1 (Nat.le_refl _) _, isS1 ky35⟩
    refine nextM_any (fun y36 => hK _ _ ?_)
    clear hK K
    refine wpM_step (fun K hK => ?_)
    go_simp
    apply And.intro
    · intro w' hC hd
      have hs : IsSl [tV 1] y36 w' := hd ⟨36, .data⟩ (by simp) rfl y36 rfl
      clear hC hd
      go_simp
      refine ⟨Ext.refl _, (mkF sg (by decide) [tV 1] 1 rfl _ _ hs).mono ?_⟩
      rintro e w2 ⟨a, c, rfl, h, B⟩
      exact ⟨_, rfl, B, h⟩
    refine nextM_any (fun y37 => hK _ _ ?_)
    clear hK K
    refine wpM_step (fun K hK => ?_)
    go_simp
    apply And.intro
    · intro w' hC hd
      clear hC hd
      go_simp
      refine ⟨Ext.refl _, (mkA sa (by decide) _).mono ?_⟩
      rintro e w2 ⟨a, c, rfl, h, B⟩
      exact ⟨_, rfl, B, h⟩
    refine nextM_any (fun y38 => hK _ _ ?_)
    clear hK K
    refine wpM_step (fun K hK => ?_)
    go_simp
    apply And.intro
    · intro w' hC hd
      have ky37 : IsTr (tF sg [tV 1]) y37 w' := hd ⟨37, .data⟩ (by simp) rfl y37 rfl
      obtain ⟨ky37, ny37, sy37, ay37, my37, cy37, rfl⟩ := tr_form ky37
      have ky38 : IsTr (tA sa) y38 w' := hd ⟨38, .data⟩ (by simp) rfl y38 rfl
      obtain ⟨ky38, ny38, sy38, ay38, my38, cy38, rfl⟩ := tr_form ky38
      clear hC hd
      go_simp
      exact ⟨below_a1 (Nat.le_refl _) _, isS2 ky37 ky38⟩
    refine nextM_any (fun y39 => hK _ _ ?_)
    clear hK K
    refine wpM_step (fun K hK => ?_)
    go_simp
    apply And.intro
    · intro w' hC hd
      have hs : IsSl [tF sg [tV 1], tA sa] y39 w' := hd ⟨39, .data⟩ (by simp) rfl y39 rfl
      clear hC hd
      go_simp
      refine ⟨Ext.refl _, (mkF sf (by decide) [tF sg [tV 1], tA sa] 2 rfl _ _ hs).mono ?_⟩
      rintro e w2 ⟨a, c, rfl, h, B⟩
      exact ⟨_, rfl, B, h⟩
    refine nextM_any (fun y40 => hK _ _ ?_)
    clear hK K
    refine wpM_step (fun K hK => ?_)
    go_simp
    apply And.intro
    · intro w' hC hd
      have k40 : IsTr sR y40 w' := hd ⟨40, .data⟩ (by simp) rfl y40 rfl
      have ks := h56.up hC (Below.size hC)
      clear hC hd
      go_simp
      refine ⟨Ext.refl _, (sane_same sR _ _ _ ks k40).mono ?_⟩
      rintro e w2 ⟨rfl, B⟩
      exact ⟨rfl, B⟩
    refine nextM_det (hK _ _ ?_)
    clear hK K
    iterate 2 (
      refine wpM_step (fun K hK => ?_)
      go_simp
      apply And.intro
      · intro w' hC _
        have z1 := hC.old.1
        have hbs := hC.old.2.2
        clear hC
        go_simp
        exact Ext.refl _
      refine nextM_det (hK _ _ ?_)
      clear hK K)
    refine wpM_nil ?_
    intro V7 hC _
    replace hb := hb.trans (Below.mono hC hb.size)
    clear hC hl h56 p8 q0 q1 q2 q3 l8
    go_wp2_with fail
    refine (mkV 0 (by unfold okI; omega) _).mono ?_
    rintro e W104 ⟨a104, c104, rfl, h104, B⟩
    replace hb := hb.trans (B.mono hb.size)
    clear B
    go_wp2_with fail
    refine (mkV 0 (by unfold okI; omega) _).mono ?_
    rintro e W105 ⟨a105, c105, rfl, h105, B⟩
    replace h104 := h104.up B B.size
    replace hb := hb.trans (B.mono hb.size)
    clear B
    go_wp2_with fail
    refine (mkF sf (by decide) [tV 0, tV 0] 2 rfl _ _ (isS2 h104 h105)).mono ?_
    rintro e W107 ⟨a107, c107, rfl, h107, B⟩
    clear h104 h105
    replace B := up1 B
    replace hb := hb.trans (B.mono hb.size)
    clear B
    go_wp2_with fail
    refine (mkA sa (by decide) _).mono ?_
    rintro e W108 ⟨a108, c108, rfl, h108, B⟩
    replace h107 := h107.up B B.size
    replace hb := hb.trans (B.mono hb.size)
    clear B
    go_wp2_with fail
    refine (mkA sa (by decide) _).mono ?_
    rintro e W109 ⟨a109, c109, rfl, h109, B⟩
    replace h107 := h107.up B B.size
    replace h108 := h108.up B B.size
    replace hb := hb.trans (B.mono hb.size)
    clear B
    go_wp2_with fail
    refine (mkF sf (by decide) [tA sa, tA sa] 2 rfl _ _ (isS2 h108 h109)).mono ?_
    rintro e W111 ⟨a111, c111, rfl, h111, B⟩
    clear h108 h109
    replace B := up1 B
    replace h107 := h107.up B B.size
    replace hb := hb.trans (B.mono hb.size)
    clear B
    go_wp2_with fail
    refine (sane_match1 _ _ _ h107 h111).mono ?_
    rintro e W112 ⟨vm, rfl, hm, B⟩
    clear h107 h111
    replace hb := hb.trans (B.mono hb.size)
    clear B
    go_wp2_with fail
    refine (mkV 0 (by unfold okI; omega) _).mono ?_
    rintro e W117 ⟨a117, c117, rfl, h117, B⟩
    replace hm := hm.up B B.size
    replace hb := hb.trans (B.mono hb.size)
    clear B
    go_wp2_with fail
    refine (mkV 0 (by unfold okI; omega) _).mono ?_
    rintro e W118 ⟨a118, c118, rfl, h118, B⟩
    replace hm := hm.up B B.size
    replace h117 := h117.up B B.size
    replace hb := hb.trans (B.mono hb.size)
    clear B
    go_wp2_with fail
    refine (mkF sf (by decide) [tV 0, tV 0] 2 rfl _ _ (isS2 h117 h118)).mono ?_
    rintro e W120 ⟨a120, c120, rfl, h120, B⟩
    clear h117 h118
    replace B := up1 B
    replace hm := hm.up B B.size
    replace hb := hb.trans (B.mono hb.size)
    clear B
    go_wp2_with fail
    refine (mkA sa (by decide) _).mono ?_
    rintro e W121 ⟨a121, c121, rfl, h121, B⟩
    replace hm := hm.up B B.size
    replace h120 := h120.up B B.size
    replace hb := hb.trans (B.mono hb.size)
    clear B
    go_wp2_with fail
    refine (mkA sb (by decide) _).mono ?_
    rintro e W122 ⟨a122, c122, rfl, h122, B⟩
    replace hm := hm.up B B.size
    replace h120 := h120.up B B.size
    replace h121 := h121.up B B.size
    replace hb := hb.trans (B.mono hb.size)
    clear B
    go_wp2_with fail
    refine (mkF sf (by decide) [tA sa, tA sb] 2 rfl _ _ (isS2 h121 h122)).mono ?_
    rintro e W124 ⟨a124, c124, rfl, h124, B⟩
    clear h121 h122
    replace B := up1 B
    replace hm := hm.up B B.size
    replace h120 := h120.up B B.size
    replace hb := hb.trans (B.mono hb.size)
    clear B
    go_wp2_with fail
    refine (sane_match2 _ _ _ h120 h124).mono ?_
    rintro e W125 ⟨rfl, B⟩
    clear h120 h124
    replace hm := hm.up B B.size
    replace hb := hb.trans (B.mono hb.size)
    clear B
    go_wp2_with fail
    refine (mkA sa (by decide) _).mono ?_
    rintro e W130 ⟨a130, c130, rfl, h130, B⟩
    replace hm := hm.up B B.size
    replace hb := hb.trans (B.mono hb.size)
    clear B
    go_wp2_with fail
    refine (mkA sa (by decide) _).mono ?_
    rintro e W131 ⟨a131, c131, rfl, h131, B⟩
    replace hm := hm.up B B.size
    replace h130 := h130.up B B.size
    replace hb := hb.trans (B.mono hb.size)
    clear B
    go_wp2_with fail
    refine (mkF sg (by decide) [tA sa] 1 rfl _ _ (isS1 h131)).mono ?_
    rintro e W133 ⟨a133, c133, rfl, h133, B⟩
    clear h131
    replace B := up1 B
    replace hm := hm.up B B.size
    replace h130 := h130.up B B.size
    replace hb := hb.trans (B.mono hb.size)
    clear B
    go_wp2_with fail
    refine (mkA sa (by decide) _).mono ?_
    rintro e W134 ⟨a134, c134, rfl, h134, B⟩
    replace hm := hm.up B B.size
    replace h130 := h130.up B B.size
    replace h133 := h133.up B B.size
    replace hb := hb.trans (B.mono hb.size)
    clear B
    go_wp2_with fail
    refine (mkF sf (by decide) [tA sa, tF sg [tA sa], tA sa] 3 rfl _ _ (isS3 h130 h133 h134)).mono ?_
    rintro e W136 ⟨a136, c136, rfl, h136, B⟩
    clear h130 h133 h134
    replace B := up1 B
    replace hm := hm.up B B.size
    replace hb := hb.trans (B.mono hb.size)
    clear B
    go_wp2_with fail
    refine (mkA sb (by decide) _).mono ?_
    rintro e W137 ⟨a137, c137, rfl, h137, B⟩
    replace hm := hm.up B B.size
    replace h136 := h136.up B B.size
    replace hb := hb.trans (B.mono hb.size)
    clear B
    go_wp2_with fail
    refine (mkA sb (by decide) _).mono ?_
    rintro e W138 ⟨a138, c138, rfl, h138, B⟩
    replace hm := hm.up B B.size
    replace h136 := h136.up B B.size
    replace h137 := h137.up B B.size
    replace hb := hb.trans (B.mono hb.size)
    clear B
    go_wp2_with fail
    refine (mkF sg (by decide) [tA sb] 1 rfl _ _ (isS1 h138)).mono ?_
    rintro e W140 ⟨a140, c140, rfl, h140, B⟩
    clear h138
    replace B := up1 B
    replace hm := hm.up B B.size
    replace h136 := h136.up B B.size
    replace h137 := h137.up B B.size
    replace hb := hb.trans (B.mono hb.size)
    clear B
    go_wp2_with fail
    refine (mkA sc (by decide) _).mono ?_
    rintro e W141 ⟨a141, c141, rfl, h141, B⟩
    replace hm := hm.up B B.size
    replace h136 := h136.up B B.size
    replace h137 := h137.up B B.size
    replace h140 := h140.up B B.size
    replace hb := hb.trans (B.mono hb.size)
    clear B
    go_wp2_with fail
    refine (mkF sf (by decide) [tA sb, tF sg [tA sb], tA sc] 3 rfl _ _ (isS3 h137 h140 h141)).mono ?_
    rintro e W143 ⟨a143, c143, rfl, h143, B⟩
    clear h137 h140 h141
    replace B := up1 B
    replace hm := hm.up B B.size
    replace h136 := h136.up B B.size
    replace hb := hb.trans (B.mono hb.size)
    clear B
    go_wp2_with fail
    refine (sane_general _ _ _ h136 h143 (fun w'' h => htab w'' (hb.trans (h.mono hb.size)))).mono ?_
    rintro e W144 ⟨a144, c144, rfl, h144, B⟩
    clear h136 h143
    replace hm := hm.up B B.size
    replace hb := hb.trans (B.mono hb.size)
    clear B
    go_wp2_with fail
    refine (mkV 2 (by unfold okI; omega) _).mono ?_
    rintro e W148 ⟨a148, c148, rfl, h148, B⟩
    have p14 := Box.keep B (Box.at rfl)
    replace B := up1 B
    replace hm := hm.up B B.size
    replace h144 := h144.up B B.size
    replace hb := hb.trans (B.mono hb.size)
    clear B
    go_wp2_with fail
    refine (mkV 0 (by unfold okI; omega) _).mono ?_
    rintro e W149 ⟨a149, c149, rfl, h149, B⟩
    replace hm := hm.up B B.size
    replace h144 := h144.up B B.size
    replace h148 := h148.up B B.size
    replace p14 := Box.keep B p14
    replace hb := hb.trans (B.mono hb.size)
    clear B
    go_wp2_with fail
    refine (mkF sf (by decide) [tV 2, tV 0] 2 rfl _ _ (isS2 h148 h149)).mono ?_
    rintro e W151 ⟨a151, c151, rfl, h151, B⟩
    clear h148 h149
    replace B := up1 B
    replace hm := hm.up B B.size
    replace h144 := h144.up B B.size
    replace p14 := Box.keep B p14
    replace hb := hb.trans (B.mono hb.size)
    clear B
    go_wp2_with fail
    refine (mkV 2 (by unfold okI; omega) _).mono ?_
    rintro e W152 ⟨a152, c152, rfl, h152, B⟩
    replace hm := hm.up B B.size
    replace h144 := h144.up B B.size
    replace h151 := h151.up B B.size
    replace p14 := Box.keep B p14
    replace hb := hb.trans (B.mono hb.size)
    clear B
    go_wp2_with fail
    refine (sane_normal _ _ (isS2 h151 h152)).mono ?_
    rintro e W154 ⟨vz, vn, rfl, hz, hn, B⟩
    clear h151 h152
    replace B := up1 B
    replace hm := hm.up B B.size
    replace h144 := h144.up B B.size
    replace p14 := Box.keep B p14
    replace hb := hb.trans (B.mono hb.size)
    clear B
    go_wp2_with fail
    have q0 := p14.cell 0
    have q1 := p14.cell 1
    have q2 := p14.cell 2
    have q3 := p14.cell 3
    simp only [List.getElem?_toArray, List.getElem?_cons_succ, List.getElem?_cons_zero] at q0 q1 q2 q3
    have l14 := p14.lt
    apply wp_region_mono [.det (.int .i64 0), .det (.bool true), .det (.bool true), .det (.bool true), .det (.bool true), .det (.bool true), .det (vm), .any (IsTr (tA sa)), .any (IsSl [tA sa]), .det (.bool true), .det (.bool true), .det (.bool true), .det (.int .i64 0), .det (.bool true), .det (.bool true), .det (.bool true), .det (.bool false), .det (.bool true), .det (.bool true), .det (.bool true), .det (.int .i64 0), .det (.bool true), .det (.bool true), .det (.bool true), .det (.agg #[.int .i64 5, .int .i64 0, .string sf, .slice a144 3 c144]), .any (IsTr (tV 0)), .any (IsTr (tV 0)), .any (IsSl [tV 0]), .any (IsTr (tF sg [tV 0])), .any (IsTr (tV 1)), .any (IsSl [tV 0, tF sg [tV 0], tV 1]), .any (IsTr sG), .det (.bool true), .det (.bool true), .det (.bool true), .det (.int .i64 0), .det (.bool true), .det (.bool true), .det (.bool true), .det (vz), .any (IsTr (tV 0)), .any (IsTr (tV 1)), .any (IsSl [tV 0, tV 1]), .any (IsTr (tF sf [tV 0, tV 1])), .any (IsTr (tV 0)), .any (IsSl sM), .det (.bool true), .det (.bool true), .det (.bool true), .det (vn), .any (IsRd [2, 0]), .det (.bool true), .det (.bool true), .det (.bool true), .det (.agg #[.int .i64 0, .int .i64 0, .string ⟨#[]⟩, .slice none 0 0]), .det (.int .i64 3), .det (.bool true), .det (.bool true), .det (.bool true)] (by kernel_rfl) (by kernel_rfl)
    rotate_left
    · iterate 7 (
        refine wpM_step (fun K hK => ?_)
        go_simp
        apply And.intro
        · intro w' hC _
          have z1 := hC.old.1
          have hbs := hC.old.2.2
          clear hC
          go_simp
          exact Ext.refl _
        refine nextM_det (hK _ _ ?_)
        clear hK K)
      refine wpM_step (fun K hK => ?_)
      go_simp
      apply And.intro
      · intro w' hC hd
        clear hC hd
        go_simp
        refine ⟨Ext.refl _, (mkA sa (by decide) _).mono ?_⟩
        rintro e w2 ⟨a, c, rfl, h, B⟩
        exact ⟨_, rfl, B, h⟩
      refine nextM_any (fun y7 => hK _ _ ?_)
      clear hK K
      refine wpM_step (fun K hK => ?_)
      go_simp
      apply And.intro
      · intro w' hC hd
        have ky7 : IsTr (tA sa) y7 w' := hd ⟨7, .data⟩ (by simp) rfl y7 rfl
        obtain ⟨ky7, ny7, sy7, ay7, my7, cy7, rfl⟩ := tr_form ky7
        clear hC hd
        go_simp
        exact ⟨below_a1 (Nat.le_refl _) _, isS1 ky7⟩
      refine nextM_any (fun y8 => hK _ _ ?_)
      clear hK K
      refine wpM_step (fun K hK => ?_)
      go_simp
      apply And.intro
      · intro w' hC hd
        have k8 : IsSl [tA sa] y8 w' := hd ⟨8, .data⟩ (by simp) rfl y8 rfl
        have km := hm.up hC (Below.size hC)
        clear hC hd
        go_simp
        refine ⟨Ext.refl _, (sane_all [tA sa] _ _ _ km k8).mono ?_⟩
        rintro e w2 ⟨rfl, B⟩
        exact ⟨rfl, B⟩
      refine nextM_det (hK _ _ ?_)
      clear hK K
      iterate 15 (
        refine wpM_step (fun K hK => ?_)
        go_simp
        apply And.intro
        · intro w' hC _
          have z1 := hC.old.1
          have hbs := hC.old.2.2
          clear hC
          go_simp
          exact Ext.refl _
        refine nextM_det (hK _ _ ?_)
        clear hK K)
      refine wpM_step (fun K hK => ?_)
      go_simp
      apply And.intro
      · intro w' hC hd
        clear hC hd
        go_simp
        refine ⟨Ext.refl _, (mkV 0 (by unfold okI; omega) _).mono ?_⟩
        rintro e w2 ⟨a, c, rfl, h, B⟩
        exact ⟨_, rfl, B, h⟩
      refine nextM_any (fun y25 => hK _ _ ?_)
      clear hK K
      refine wpM_step (fun K hK => ?_)
      go_simp
      apply And.intro
      · intro w' hC hd
        clear hC hd
        go_simp
        refine ⟨Ext.refl _, (mkV 0 (by unfold okI; omega) _).mono ?_⟩
        rintro e w2 ⟨a, c, rfl, h, B⟩
        exact ⟨_, rfl, B, h⟩
      refine nextM_any (fun y26 => hK _ _ ?_)
      clear hK K
      refine wpM_step (fun K hK => ?_)
      go_simp
      apply And.intro
      · intro w' hC hd
        have ky26 : IsTr (tV 0) y26 w' := hd ⟨26, .data⟩ (by simp) rfl y26 rfl
        obtain ⟨ky26, ny26, sy26, ay26, my26, cy26, rfl⟩ := tr_form ky26
        clear hC hd
        go_simp
        exact ⟨below_a1 (Nat.le_refl _) _, isS1 ky26⟩
      refine nextM_any (fun y27 => hK _ _ ?_)
      clear hK K
      refine wpM_step (fun K hK => ?_)
      go_simp
      apply And.intro
      · intro w' hC hd
        have hs : IsSl [tV 0] y27 w' := hd ⟨27, .data⟩ (by simp) rfl y27 rfl
        clear hC hd
        go_simp
        refine ⟨Ext.refl _, (mkF sg (by decide) [tV 0] 1 rfl _ _ hs).mono ?_⟩
        rintro e w2 ⟨a, c, rfl, h, B⟩
        exact ⟨_, rfl, B, h⟩
      refine nextM_any (fun y28 => hK _ _ ?_)
      clear hK K
      refine wpM_step (fun K hK => ?_)
      go_simp
      apply And.intro
      · intro w' hC hd
        clear hC hd
        go_simp
        refine ⟨Ext.refl _, (mkV 1 (by unfold okI; omega) _).mono ?_⟩
        rintro e w2 ⟨a, c, rfl, h, B⟩
        exact ⟨_, rfl, B, h⟩
      refine nextM_any (fun y29 => hK _ _ ?_)
      clear hK K
      refine wpM_step (fun K hK => ?_)
      go_simp
      apply And.intro
      · intro w' hC hd
        have ky25 : IsTr (tV 0) y25 w' := hd ⟨25, .data⟩ (by simp) rfl y25 rfl
        obtain ⟨ky25, ny25, sy25, ay25, my25, cy25, rfl⟩ := tr_form ky25
        have ky28 : IsTr (tF sg [tV 0]) y28 w' := hd ⟨28, .data⟩ (by simp) rfl y28 rfl
        obtain ⟨ky28, ny28, sy28, ay28, my28, cy28, rfl⟩ := tr_form ky28
        have ky29 : IsTr (tV 1) y29 w' := hd ⟨29, .data⟩ (by simp) rfl y29 rfl
        obtain ⟨ky29, ny29, sy29, ay29, my29, cy29, rfl⟩ := tr_form ky29
        clear hC hd
        go_simp
        exact ⟨below_a1 (Nat.le_refl _) _, isS3 ky25 ky28 ky29⟩
      refine nextM_any (fun y30 => hK _ _ ?_)
      clear hK K
      refine wpM_step (fun K hK => ?_)
      go_simp
      apply And.intro
      · intro w' hC hd
        have hs : IsSl [tV 0, tF sg [tV 0], tV 1] y30 w' := hd ⟨30, .data⟩ (by simp) rfl y30 rfl
        clear hC hd
        go_simp
        refine ⟨Ext.refl _, (mkF sf (by decide) [tV 0, tF sg [tV 0], tV 1] 3 rfl _ _ hs).mono ?_⟩
        rintro e w2 ⟨a, c, rfl, h, B⟩
        exact ⟨_, rfl, B, h⟩
      refine nextM_any (fun y31 => hK _ _ ?_)
      clear hK K
      refine wpM_step (fun K hK => ?_)
      go_simp
      apply And.intro
      · intro w' hC hd
        have k31 : IsTr sG y31 w' := hd ⟨31, .data⟩ (by simp) rfl y31 rfl
        have ks := h144.up hC (Below.size hC)
        clear hC hd
        go_simp
        refine ⟨Ext.refl _, (sane_same sG _ _ _ ks k31).mono ?_⟩
        rintro e w2 ⟨rfl, B⟩
        exact ⟨rfl, B⟩
      refine nextM_det (hK _ _ ?_)
      clear hK K
      iterate 7 (
        refine wpM_step (fun K hK => ?_)
        go_simp
        apply And.intro
        · intro w' hC _
          have z1 := hC.old.1
          have hbs := hC.old.2.2
          clear hC
          go_simp
          exact Ext.refl _
        refine nextM_det (hK _ _ ?_)
        clear hK K)
      refine wpM_step (fun K hK => ?_)
      go_simp
      apply And.intro
      · intro w' hC hd
        clear hC hd
        go_simp
        refine ⟨Ext.refl _, (mkV 0 (by unfold okI; omega) _).mono ?_⟩
        rintro e w2 ⟨a, c, rfl, h, B⟩
        exact ⟨_, rfl, B, h⟩
      refine nextM_any (fun y40 => hK _ _ ?_)
      clear hK K
      refine wpM_step (fun K hK => ?_)
      go_simp
      apply And.intro
      · intro w' hC hd
        clear hC hd
        go_simp
        refine ⟨Ext.refl _, (mkV 1 (by unfold okI; omega) _).mono ?_⟩
        rintro e w2 ⟨a, c, rfl, h, B⟩
        exact ⟨_, rfl, B, h⟩
      refine nextM_any (fun y41 => hK _ _ ?_)
      clear hK K
      refine wpM_step (fun K hK => ?_)
      go_simp
      apply And.intro
      · intro w' hC hd
        have ky40 : IsTr (tV 0) y40 w' := hd ⟨40, .data⟩ (by simp) rfl y40 rfl
        obtain ⟨ky40, ny40, sy40, ay40, my40, cy40, rfl⟩ := tr_form ky40
        have ky41 : IsTr (tV 1) y41 w' := hd ⟨41, .data⟩ (by simp) rfl y41 rfl
        obtain ⟨ky41, ny41, sy41, ay41, my41, cy41, rfl⟩ := tr_form ky41
        clear hC hd
        go_simp
        exact ⟨below_a1 (Nat.le_refl _) _, isS2 ky40 ky41⟩
      refine nextM_any (fun y42 => hK _ _ ?_)
      clear hK K
      refine wpM_step (fun K hK => ?_)
      go_simp
      apply And.intro
      · intro w' hC hd
        have hs : IsSl [tV 0, tV 1] y42 w' := hd ⟨42, .data⟩ (by simp) rfl y42 rfl
        clear hC hd
        go_simp
        refine ⟨Ext.refl _, (mkF sf (by decide) [tV 0, tV 1] 2 rfl _ _ hs).mono ?_⟩
        rintro e w2 ⟨a, c, rfl, h, B⟩
        exact ⟨_, rfl, B, h⟩
      refine nextM_any (fun y43 => hK _ _ ?_)
      clear hK K
      refine wpM_step (fun K hK => ?_)
      go_simp
      apply And.intro
      · intro w' hC hd
        clear hC hd
        go_simp
        refine ⟨Ext.refl _, (mkV 0 (by unfold okI; omega) _).mono ?_⟩
        rintro e w2 ⟨a, c, rfl, h, B⟩
        exact ⟨_, rfl, B, h⟩
      refine nextM_any (fun y44 => hK _ _ ?_)
      clear hK K
      refine wpM_step (fun K hK => ?_)
      go_simp
      apply And.intro
      · intro w' hC hd
        have ky43 : IsTr (tF sf [tV 0, tV 1]) y43 w' := hd ⟨43, .data⟩ (by simp) rfl y43 rfl
        obtain ⟨ky43, ny43, sy43, ay43, my43, cy43, rfl⟩ := tr_form ky43
        have ky44 : IsTr (tV 0) y44 w' := hd ⟨44, .data⟩ (by simp) rfl y44 rfl
        obtain ⟨ky44, ny44, sy44, ay44, my44, cy44, rfl⟩ := tr_form ky44
        clear hC hd
        go_simp
        exact ⟨below_a1 (Nat.le_refl _) _, isS2 ky43 ky44⟩
      refine nextM_any (fun y45 => hK _ _ ?_)
      clear hK K
      refine wpM_step (fun K hK => ?_)
      go_simp
      apply And.intro
      · intro w' hC hd
        have k45 : IsSl sM y45 w' := hd ⟨45, .data⟩ (by simp) rfl y45 rfl
        have kz := hz.up hC (Below.size hC)
        clear hC hd
        go_simp
        refine ⟨Ext.refl _, (sane_all sM _ _ _ kz k45).mono ?_⟩
        rintro e w2 ⟨rfl, B⟩
        exact ⟨rfl, B⟩
      refine nextM_det (hK _ _ ?_)
      clear hK K
      iterate 3 (
        refine wpM_step (fun K hK => ?_)
        go_simp
        apply And.intro
        · intro w' hC _
          have z1 := hC.old.1
          have hbs := hC.old.2.2
          clear hC
          go_simp
          exact Ext.refl _
        refine nextM_det (hK _ _ ?_)
        clear hK K)
      refine wpM_step (fun K hK => ?_)
      go_simp
      apply And.intro
      · intro w' hC hd
        clear hC hd
        go_simp
        exact ⟨below_a1 (Nat.le_refl _) _, rd_made [2, 0] (by decide)⟩
      refine nextM_any (fun y50 => hK _ _ ?_)
      clear hK K
      refine wpM_step (fun K hK => ?_)
      go_simp
      apply And.intro
      · intro w' hC hd
        have k50 : IsRd [2, 0] y50 w' := hd ⟨50, .data⟩ (by simp) rfl y50 rfl
        have kn := hn.up hC (Below.size hC)
        clear hC hd
        go_simp
        refine ⟨Ext.refl _, (sane_eqN [2, 0] _ _ _ kn k50).mono ?_⟩
        rintro e w2 ⟨rfl, B⟩
        exact ⟨rfl, B⟩
      refine nextM_det (hK _ _ ?_)
      clear hK K
      iterate 3 (
        refine wpM_step (fun K hK => ?_)
        go_simp
        apply And.intro
        · intro w' hC _
          have z1 := hC.old.1
          have hbs := hC.old.2.2
          clear hC
          go_simp
          exact Ext.refl _
        refine nextM_det (hK _ _ ?_)
        clear hK K)
      refine wpM_step (fun K hK => ?_)
      go_simp
      apply And.intro
      · intro w' hC hd
        clear hC hd
        go_simp
        refine ⟨Ext.refl _, (sane_check _).mono ?_⟩
        rintro e w2 ⟨rfl, B⟩
        exact ⟨rfl, B⟩
      refine nextM_det (hK _ _ ?_)
      clear hK K
      iterate 3 (
        refine wpM_step (fun K hK => ?_)
        go_simp
        apply And.intro
        · intro w' hC _
          have z1 := hC.old.1
          have hbs := hC.old.2.2
          clear hC
          go_simp
          exact Ext.refl _
        refine nextM_det (hK _ _ ?_)
        clear hK K)
      refine wpM_nil ?_
      intro V8 hC _
      replace hb := hb.trans (Below.mono hC hb.size)
      clear hC
      go_wp2_with fail
      go_ret
      exact ⟨rfl, hb⟩
    · intro y hy
      simp only [List.mem_cons, List.not_mem_nil, or_false] at hy
      rcases hy with rfl | rfl | rfl | rfl | rfl | rfl | rfl | rfl | rfl | rfl | rfl | rfl | rfl | rfl | rfl | rfl | rfl | rfl | rfl | rfl | rfl | rfl | rfl | rfl | rfl | rfl | rfl | rfl | rfl | rfl | rfl | rfl | rfl | rfl | rfl | rfl | rfl | rfl | rfl | rfl | rfl | rfl | rfl | rfl | rfl | rfl | rfl | rfl | rfl | rfl | rfl | rfl | rfl | rfl | rfl | rfl | rfl | rfl | rfl <;> first | trivial | exact IsRd.stable _ | exact IsRdd.stable _ | exact IsTr.stable _ | exact IsSl.stable _
  · intro y hy
    simp only [List.mem_cons, List.not_mem_nil, or_false] at hy
    rcases hy with rfl | rfl | rfl | rfl | rfl | rfl | rfl | rfl | rfl | rfl | rfl | rfl | rfl | rfl | rfl | rfl | rfl | rfl | rfl | rfl | rfl | rfl | rfl | rfl | rfl | rfl | rfl | rfl | rfl | rfl | rfl | rfl | rfl | rfl | rfl | rfl | rfl | rfl | rfl | rfl | rfl | rfl | rfl | rfl <;> first | trivial | exact IsRd.stable _ | exact IsRdd.stable _ | exact IsTr.stable _ | exact IsSl.stable _
end Go.Proofs.YtdigiaigbcfccaaGreatDoor
