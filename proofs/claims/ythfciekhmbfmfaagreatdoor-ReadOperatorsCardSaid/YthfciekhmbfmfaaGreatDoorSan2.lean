/- The chapter's examples hold: the walk of the laws' function sane. -/
import Derived.Test.YthfciekhmbfmfaaGreatDoorLexB
namespace Go.Proofs.YthfciekhmbfmfaaGreatDoor
open Go.RowKit Go Go.Maps

attribute [local go_sem] Oper.semAt_some monoUpon Yld.says
/-- A box that holds a tree. -/
def TrBox (T : Tr) (b : Nat) (W : World) : Prop := ∃ (k n : Int) (s : ByteArray) (a : Option Addr) (m c : Nat), Box W b #[.int .i64 k, .int .i64 n, .string s, .slice a m c] 31 ∧ IsTr T (.agg #[.int .i64 k, .int .i64 n, .string s, .slice a m c]) W
theorem TrBox.up {T : Tr} {b : Nat} {W W' : World} (h : TrBox T b W) (hB : Ext W W') : TrBox T b W' := by
  obtain ⟨k, n, s, a, m, c, h1, h2⟩ := h
  exact ⟨k, n, s, a, m, c, h1.keep hB, IsT.up h2 hB (Below.size hB)⟩
set_option maxRecDepth 100000 in
set_option maxHeartbeats 64000000 in
theorem sane2_any (w : World) (mm : Int) (hCw : WrC w mm) : Calls Tryz.prog 17 #[] w fun e w' => e = .returned (.bool true) ∧ Below w.heap.size w w' := by
  have HC := Lib.hid (fun (W' : World) (hB : Below w.heap.size w W') => hCw.up hB)
  clear hCw
  go_enter Tryz.func17, Tryz.ntmps17
  go_wp2_with fail
  refine (law2Atom_any ⟨#[97]⟩ (by decide) _).mono ?_
  rintro e W10 ⟨u10, rfl, B10, h10⟩
  obtain ⟨k10, n10, t10, x10, m10, c10, rfl⟩ := tr_form h10
  go_wp2_with fail
  refine (law2Atom_any ⟨#[98]⟩ (by decide) _).mono ?_
  rintro e W11 ⟨u11, rfl, B11, h11⟩
  obtain ⟨k11, n11, t11, x11, m11, c11, rfl⟩ := tr_form h11
  go_wp2_with fail
  refine (law2Atom_any ⟨#[99]⟩ (by decide) _).mono ?_
  rintro e W12 ⟨u12, rfl, B12, h12⟩
  obtain ⟨k12, n12, t12, x12, m12, c12, rfl⟩ := tr_form h12
  have hB12 := B10.trans (B11.mono B10.size)
  replace hB12 := hB12.trans (B12.mono hB12.size)
  have hA := below_a3 (Nat.le_refl W12.heap.size) (.cells #[.int .i64 k10, .int .i64 n10, .string t10, .slice x10 m10 c10] 31) (.cells #[.int .i64 k11, .int .i64 n11, .string t11, .slice x11 m11 c11] 31) (.cells #[.int .i64 k12, .int .i64 n12, .string t12, .slice x12 m12 c12] 31)
  have hA1 : Below W12.heap.size W12 (((W12.alloc (.cells #[.int .i64 k10, .int .i64 n10, .string t10, .slice x10 m10 c10] 31)).alloc (.cells #[.int .i64 k11, .int .i64 n11, .string t11, .slice x11 m11 c11] 31)).alloc (.cells #[.int .i64 k12, .int .i64 n12, .string t12, .slice x12 m12 c12] 31)) := hA
  have g10 := (IsT.up (IsT.up h10 B11 B11.size) B12 B12.size)
  have g11 := IsT.up h11 B12 B12.size
  have tb10 : TrBox (tAt [97]) (W12.heap.size + 0) (((W12.alloc (.cells #[.int .i64 k10, .int .i64 n10, .string t10, .slice x10 m10 c10] 31)).alloc (.cells #[.int .i64 k11, .int .i64 n11, .string t11, .slice x11 m11 c11] 31)).alloc (.cells #[.int .i64 k12, .int .i64 n12, .string t12, .slice x12 m12 c12] 31)) := ⟨_, _, _, _, _, _, ((Box.at rfl).alloc _).alloc _, IsT.up g10 hA1 hA1.size⟩
  have tb11 : TrBox (tAt [98]) (W12.heap.size + 1) (((W12.alloc (.cells #[.int .i64 k10, .int .i64 n10, .string t10, .slice x10 m10 c10] 31)).alloc (.cells #[.int .i64 k11, .int .i64 n11, .string t11, .slice x11 m11 c11] 31)).alloc (.cells #[.int .i64 k12, .int .i64 n12, .string t12, .slice x12 m12 c12] 31)) := ⟨_, _, _, _, _, _, (Box.at (by simp)).alloc _, IsT.up g11 hA1 hA1.size⟩
  have tb12 : TrBox (tAt [99]) (W12.heap.size + 2) (((W12.alloc (.cells #[.int .i64 k10, .int .i64 n10, .string t10, .slice x10 m10 c10] 31)).alloc (.cells #[.int .i64 k11, .int .i64 n11, .string t11, .slice x11 m11 c11] 31)).alloc (.cells #[.int .i64 k12, .int .i64 n12, .string t12, .slice x12 m12 c12] 31)) := ⟨_, _, _, _, _, _, Box.at (by simp), IsT.up h12 hA1 hA1.size⟩
  have HT := Lib.hid (And.intro tb10 (And.intro tb11 (And.intro tb12 (hB12.trans (hA1.mono hB12.size)))))
  clear hB12 hA hA1 g10 g11 tb10 tb11 tb12 h10 h11 h12 B10 B11 B12
  go_wp2_with fail
  generalize ((W12.alloc (.cells #[.int .i64 k10, .int .i64 n10, .string t10, .slice x10 m10 c10] 31)).alloc (.cells #[.int .i64 k11, .int .i64 n11, .string t11, .slice x11 m11 c11] 31)).alloc (.cells #[.int .i64 k12, .int .i64 n12, .string t12, .slice x12 m12 c12] 31) = V1 at *
  obtain ⟨ba, hba⟩ : ∃ ba, W12.heap.size = ba := ⟨_, rfl⟩
  obtain ⟨bb, hbb⟩ : ∃ bb, ba + 1 = bb := ⟨_, rfl⟩
  obtain ⟨bc, hbc⟩ : ∃ bc, bb + 1 = bc := ⟨_, rfl⟩
  rw [hba, hbb, hbc]
  have HTA : Hid (TrBox (tAt [97]) ba V1) := by rw [Hid, ← hba]; exact HT.out.1
  have HTB : Hid (TrBox (tAt [98]) bb V1) := by rw [Hid, ← hbb, ← hba]; exact HT.out.2.1
  have HTC : Hid (TrBox (tAt [99]) bc V1) := by rw [Hid, ← hbc, ← hbb, ← hba]; exact HT.out.2.2.1
  have HB1 : Hid (Below w.heap.size w V1) := HT.out.2.2.2
  clear HT hba hbb hbc
  refine (readLex_any ⟨#[102, 40, 88, 44, 45, 49, 41, 46]⟩ V1 (by decide) mm (HC.out V1 HB1.out).mx (HC.out V1 HB1.out).ml).mono ?_
  rintro e V2 ⟨hB2, hQ⟩
  rw [lx0] at hQ
  obtain ⟨v, rfl, hown⟩ := hQ
  obtain ⟨g, cap, rfl, _, hg⟩ := hown.own.form (by decide)
  have e20 : V2.cell? ⟨g, 20, none⟩ = some (.int .i64 1) := hown.cells rfl (j := 20) rfl
  have e21 : V2.cell? ⟨g, 21, none⟩ = some (.int .i64 0) := hown.cells rfl (j := 21) rfl
  have e22 : V2.cell? ⟨g, 22, none⟩ = some (.string ⟨#[45]⟩) := hown.cells rfl (j := 22) rfl
  have e23 : V2.cell? ⟨g, 23, none⟩ = some (.int .i64 4) := hown.cells rfl (j := 23) rfl
  have e24 : V2.cell? ⟨g, 24, none⟩ = some (.int .i64 5) := hown.cells rfl (j := 24) rfl
  have e35 : V2.cell? ⟨g, 35, none⟩ = some (.int .i64 7) := hown.cells rfl (j := 35) rfl
  have hl8 : lxs0.length = 8 := rfl
  rw [hl8] at hown ⊢
  have HTA := Lib.hid (HTA.out.up hB2)
  have HTB := Lib.hid (HTB.out.up hB2)
  have HTC := Lib.hid (HTC.out.up hB2)
  have HB2 := Lib.hid (HB1.out.trans (hB2.mono HB1.out.size))
  clear hown hB2 HB1
  go_wp2_with fail
  clear e20 e21 e22 e23 e24 e35
  have HBW := HB2
  clear HB2
  refine wp_region_mono [.any (IsTr (tVr 0)), .any (IsTr (tVr 1)), .any (IsTr (tVr 0)), .any (IsSl [(tVr 1), (tVr 0)]), .any (IsTr (tFn [42] [(tVr 1), (tVr 0)])), .any (IsSl [(tVr 0), (tFn [42] [(tVr 1), (tVr 0)])]), .any (IsTr (tFn [43] [(tVr 0), (tFn [42] [(tVr 1), (tVr 0)])])), .det (.bool true), .det (.bool false), .det (.bool false), .any (IsTr (tIn (1))), .any (IsSl [(tIn (1))]), .any (IsTr (tFn [45] [(tIn (1))])), .det (.bool true), .det (.bool false), .det (.bool false), .det (.bool false), .any (IsTr (tIn (-1))), .det (.bool true), .det (.bool false), .det (.bool false), .det (.bool false), .any (IsTr (tAt [97])), .any (IsTr (tIn (-1))), .any (IsSl [(tAt [97]), (tIn (-1))]), .any (IsTr (tFn [45] [(tAt [97]), (tIn (-1))])), .det (.bool true), .det (.bool false), .det (.bool false)] (by kernel_rfl) (by kernel_rfl) ?_ ?_
  · intro y hy
    simp only [List.mem_cons, List.not_mem_nil, or_false] at hy
    rcases hy with rfl | rfl | rfl | rfl | rfl | rfl | rfl | rfl | rfl | rfl | rfl | rfl | rfl | rfl | rfl | rfl | rfl | rfl | rfl | rfl | rfl | rfl | rfl | rfl | rfl | rfl | rfl | rfl | rfl <;> first | trivial | exact IsSl.stable _ | exact IsTr.stable _
  rw [wpM]
  go_simp
  apply And.intro
  · intro w' hC hd
    clear hC hd
    go_simp
    refine ⟨Ext.refl _, (law2Variable_any (0) (by unfold okI; omega) _).mono ?_⟩
    rintro e w2 ⟨u, rfl, hB, h⟩
    exact ⟨_, rfl, hB, h⟩
  simp only [nextM]
  intro y0
  rw [wpM]
  go_simp
  apply And.intro
  · intro w' hC hd
    clear hC hd
    go_simp
    refine ⟨Ext.refl _, (law2Variable_any (1) (by unfold okI; omega) _).mono ?_⟩
    rintro e w2 ⟨u, rfl, hB, h⟩
    exact ⟨_, rfl, hB, h⟩
  simp only [nextM]
  intro y1
  rw [wpM]
  go_simp
  apply And.intro
  · intro w' hC hd
    clear hC hd
    go_simp
    refine ⟨Ext.refl _, (law2Variable_any (0) (by unfold okI; omega) _).mono ?_⟩
    rintro e w2 ⟨u, rfl, hB, h⟩
    exact ⟨_, rfl, hB, h⟩
  simp only [nextM]
  intro y2
  rw [wpM]
  go_simp
  apply And.intro
  · intro w' hC hd
    have k1 : IsTr (tVr 1) y1 w' := hd ⟨1, .data⟩ (by simp) rfl y1 rfl
    have k2 : IsTr (tVr 0) y2 w' := hd ⟨2, .data⟩ (by simp) rfl y2 rfl
    obtain ⟨p1, p1a, p1b, p1c, p1d, p1e, rfl⟩ := tr_form k1
    obtain ⟨p2, p2a, p2b, p2c, p2d, p2e, rfl⟩ := tr_form k2
    clear hC hd
    go_simp
    exact ⟨below_a1 (Nat.le_refl _) _, isSl2 k1 k2⟩
  simp only [nextM]
  intro y3
  rw [wpM]
  go_simp
  apply And.intro
  · intro w' hC hd
    have k3 : IsSl [(tVr 1), (tVr 0)] y3 w' := hd ⟨3, .data⟩ (by simp) rfl y3 rfl
    clear hC hd
    go_simp
    refine ⟨Ext.refl _, (law2Fun_any ⟨#[42]⟩ (by decide) [(tVr 1), (tVr 0)] y3 _ k3).mono ?_⟩
    rintro e w2 ⟨u, rfl, hB, h⟩
    exact ⟨_, rfl, hB, h⟩
  simp only [nextM]
  intro y4
  rw [wpM]
  go_simp
  apply And.intro
  · intro w' hC hd
    have k0 : IsTr (tVr 0) y0 w' := hd ⟨0, .data⟩ (by simp) rfl y0 rfl
    have k4 : IsTr (tFn [42] [(tVr 1), (tVr 0)]) y4 w' := hd ⟨4, .data⟩ (by simp) rfl y4 rfl
    obtain ⟨p0, p0a, p0b, p0c, p0d, p0e, rfl⟩ := tr_form k0
    obtain ⟨p4, p4a, p4b, p4c, p4d, p4e, rfl⟩ := tr_form k4
    clear hC hd
    go_simp
    exact ⟨below_a1 (Nat.le_refl _) _, isSl2 k0 k4⟩
  simp only [nextM]
  intro y5
  rw [wpM]
  go_simp
  apply And.intro
  · intro w' hC hd
    have k5 : IsSl [(tVr 0), (tFn [42] [(tVr 1), (tVr 0)])] y5 w' := hd ⟨5, .data⟩ (by simp) rfl y5 rfl
    clear hC hd
    go_simp
    refine ⟨Ext.refl _, (law2Fun_any ⟨#[43]⟩ (by decide) [(tVr 0), (tFn [42] [(tVr 1), (tVr 0)])] y5 _ k5).mono ?_⟩
    rintro e w2 ⟨u, rfl, hB, h⟩
    exact ⟨_, rfl, hB, h⟩
  simp only [nextM]
  intro y6
  rw [wpM]
  go_simp
  apply And.intro
  · intro w' hC hd
    have k6 : IsTr (tFn [43] [(tVr 0), (tFn [42] [(tVr 1), (tVr 0)])]) y6 w' := hd ⟨6, .data⟩ (by simp) rfl y6 rfl
    have hc := HC.out w' (HBW.out.trans (Below.mono hC HBW.out.size))
    obtain ⟨ns, hp⟩ := rd0
    clear hC hd
    go_simp
    refine ⟨Ext.refl _, (reads_true _ _ ns hp (by decide) _ w' mm hc k6).mono ?_⟩
    rintro e w2 ⟨rfl, hB⟩
    exact ⟨rfl, hB⟩
  simp only [nextM]
  rw [wpM]
  go_simp
  apply And.intro
  · intro w' hC hd
    have q1 := hC.old.1
    have hbs := hC.old.2.2
    clear hC hd
    go_simp
    first | exact ⟨Ext.refl _, rfl⟩ | exact Ext.refl _
  simp only [nextM]
  rw [wpM]
  go_simp
  apply And.intro
  · intro w' hC hd
    have q1 := hC.old.1
    have hbs := hC.old.2.2
    clear hC hd
    go_simp
    first | exact ⟨Ext.refl _, rfl⟩ | exact Ext.refl _
  simp only [nextM]
  rw [wpM]
  go_simp
  apply And.intro
  · intro w' hC hd
    clear hC hd
    go_simp
    refine ⟨Ext.refl _, (law2Number_any (1) (by unfold okI; omega) _).mono ?_⟩
    rintro e w2 ⟨u, rfl, hB, h⟩
    exact ⟨_, rfl, hB, h⟩
  simp only [nextM]
  intro y10
  rw [wpM]
  go_simp
  apply And.intro
  · intro w' hC hd
    have k10 : IsTr (tIn (1)) y10 w' := hd ⟨10, .data⟩ (by simp) rfl y10 rfl
    obtain ⟨p10, p10a, p10b, p10c, p10d, p10e, rfl⟩ := tr_form k10
    clear hC hd
    go_simp
    exact ⟨below_a1 (Nat.le_refl _) _, isSl1 k10⟩
  simp only [nextM]
  intro y11
  rw [wpM]
  go_simp
  apply And.intro
  · intro w' hC hd
    have k11 : IsSl [(tIn (1))] y11 w' := hd ⟨11, .data⟩ (by simp) rfl y11 rfl
    clear hC hd
    go_simp
    refine ⟨Ext.refl _, (law2Fun_any ⟨#[45]⟩ (by decide) [(tIn (1))] y11 _ k11).mono ?_⟩
    rintro e w2 ⟨u, rfl, hB, h⟩
    exact ⟨_, rfl, hB, h⟩
  simp only [nextM]
  intro y12
  rw [wpM]
  go_simp
  apply And.intro
  · intro w' hC hd
    have k12 : IsTr (tFn [45] [(tIn (1))]) y12 w' := hd ⟨12, .data⟩ (by simp) rfl y12 rfl
    have hc := HC.out w' (HBW.out.trans (Below.mono hC HBW.out.size))
    obtain ⟨ns, hp⟩ := rd1
    clear hC hd
    go_simp
    refine ⟨Ext.refl _, (reads_true _ _ ns hp (by decide) _ w' mm hc k12).mono ?_⟩
    rintro e w2 ⟨rfl, hB⟩
    exact ⟨rfl, hB⟩
  simp only [nextM]
  rw [wpM]
  go_simp
  apply And.intro
  · intro w' hC hd
    have q1 := hC.old.1
    have hbs := hC.old.2.2
    clear hC hd
    go_simp
    first | exact ⟨Ext.refl _, rfl⟩ | exact Ext.refl _
  simp only [nextM]
  rw [wpM]
  go_simp
  apply And.intro
  · intro w' hC hd
    have q1 := hC.old.1
    have hbs := hC.old.2.2
    clear hC hd
    go_simp
    first | exact ⟨Ext.refl _, rfl⟩ | exact Ext.refl _
  simp only [nextM]
  rw [wpM]
  go_simp
  apply And.intro
  · intro w' hC hd
    have q1 := hC.old.1
    have hbs := hC.old.2.2
    clear hC hd
    go_simp
    first | exact ⟨Ext.refl _, rfl⟩ | exact Ext.refl _
  simp only [nextM]
  rw [wpM]
  go_simp
  apply And.intro
  · intro w' hC hd
    clear hC hd
    go_simp
    refine ⟨Ext.refl _, (law2Number_any (-1) (by unfold okI; omega) _).mono ?_⟩
    rintro e w2 ⟨u, rfl, hB, h⟩
    exact ⟨_, rfl, hB, h⟩
  simp only [nextM]
  intro y17
  rw [wpM]
  go_simp
  apply And.intro
  · intro w' hC hd
    have k17 : IsTr (tIn (-1)) y17 w' := hd ⟨17, .data⟩ (by simp) rfl y17 rfl
    have hc := HC.out w' (HBW.out.trans (Below.mono hC HBW.out.size))
    obtain ⟨ns, hp⟩ := rd2
    clear hC hd
    go_simp
    refine ⟨Ext.refl _, (reads_true _ _ ns hp (by decide) _ w' mm hc k17).mono ?_⟩
    rintro e w2 ⟨rfl, hB⟩
    exact ⟨rfl, hB⟩
  simp only [nextM]
  rw [wpM]
  go_simp
  apply And.intro
  · intro w' hC hd
    have q1 := hC.old.1
    have hbs := hC.old.2.2
    clear hC hd
    go_simp
    first | exact ⟨Ext.refl _, rfl⟩ | exact Ext.refl _
  simp only [nextM]
  rw [wpM]
  go_simp
  apply And.intro
  · intro w' hC hd
    have q1 := hC.old.1
    have hbs := hC.old.2.2
    clear hC hd
    go_simp
    first | exact ⟨Ext.refl _, rfl⟩ | exact Ext.refl _
  simp only [nextM]
  rw [wpM]
  go_simp
  apply And.intro
  · intro w' hC hd
    have q1 := hC.old.1
    have hbs := hC.old.2.2
    clear hC hd
    go_simp
    first | exact ⟨Ext.refl _, rfl⟩ | exact Ext.refl _
  simp only [nextM]
  rw [wpM]
  go_simp
  apply And.intro
  · intro w' hC hd
    obtain ⟨k, n, t, x, m, c, hb, ht⟩ := TrBox.up (HTA.out) hC
    have l0 := hb.lt
    have q0 := hb.cell 0
    have q1 := hb.cell 1
    have q2 := hb.cell 2
    have q3 := hb.cell 3
    simp only [List.getElem?_toArray, List.getElem?_cons_succ, List.getElem?_cons_zero] at q0 q1 q2 q3
    clear hC hd
    go_simp
    first | exact ⟨Ext.refl _, ht⟩ | exact Ext.refl _
  simp only [nextM]
  intro y22
  rw [wpM]
  go_simp
  apply And.intro
  · intro w' hC hd
    clear hC hd
    go_simp
    refine ⟨Ext.refl _, (law2Number_any (-1) (by unfold okI; omega) _).mono ?_⟩
    rintro e w2 ⟨u, rfl, hB, h⟩
    exact ⟨_, rfl, hB, h⟩
  simp only [nextM]
  intro y23
  rw [wpM]
  go_simp
  apply And.intro
  · intro w' hC hd
    have k22 : IsTr (tAt [97]) y22 w' := hd ⟨22, .data⟩ (by simp) rfl y22 rfl
    have k23 : IsTr (tIn (-1)) y23 w' := hd ⟨23, .data⟩ (by simp) rfl y23 rfl
    obtain ⟨p22, p22a, p22b, p22c, p22d, p22e, rfl⟩ := tr_form k22
    obtain ⟨p23, p23a, p23b, p23c, p23d, p23e, rfl⟩ := tr_form k23
    clear hC hd
    go_simp
    exact ⟨below_a1 (Nat.le_refl _) _, isSl2 k22 k23⟩
  simp only [nextM]
  intro y24
  rw [wpM]
  go_simp
  apply And.intro
  · intro w' hC hd
    have k24 : IsSl [(tAt [97]), (tIn (-1))] y24 w' := hd ⟨24, .data⟩ (by simp) rfl y24 rfl
    clear hC hd
    go_simp
    refine ⟨Ext.refl _, (law2Fun_any ⟨#[45]⟩ (by decide) [(tAt [97]), (tIn (-1))] y24 _ k24).mono ?_⟩
    rintro e w2 ⟨u, rfl, hB, h⟩
    exact ⟨_, rfl, hB, h⟩
  simp only [nextM]
  intro y25
  rw [wpM]
  go_simp
  apply And.intro
  · intro w' hC hd
    have k25 : IsTr (tFn [45] [(tAt [97]), (tIn (-1))]) y25 w' := hd ⟨25, .data⟩ (by simp) rfl y25 rfl
    have hc := HC.out w' (HBW.out.trans (Below.mono hC HBW.out.size))
    obtain ⟨ns, hp⟩ := rd3
    clear hC hd
    go_simp
    refine ⟨Ext.refl _, (reads_true _ _ ns hp (by decide) _ w' mm hc k25).mono ?_⟩
    rintro e w2 ⟨rfl, hB⟩
    exact ⟨rfl, hB⟩
  simp only [nextM]
  rw [wpM]
  go_simp
  apply And.intro
  · intro w' hC hd
    have q1 := hC.old.1
    have hbs := hC.old.2.2
    clear hC hd
    go_simp
    first | exact ⟨Ext.refl _, rfl⟩ | exact Ext.refl _
  simp only [nextM]
  rw [wpM]
  go_simp
  apply And.intro
  · intro w' hC hd
    have q1 := hC.old.1
    have hbs := hC.old.2.2
    clear hC hd
    go_simp
    first | exact ⟨Ext.refl _, rfl⟩ | exact Ext.refl _
  simp only [nextM]
  refine wpM_nil ?_
  intro V3 hC1 _
  have hC2 : Ext _ V3 := hC1
  replace HTA := Lib.hid (HTA.out.up hC2)
  replace HTB := Lib.hid (HTB.out.up hC2)
  replace HTC := Lib.hid (HTC.out.up hC2)
  replace HBW := Lib.hid (HBW.out.trans (Below.mono hC2 HBW.out.size))
  clear hC1 hC2
  go_wp2_with fail
  refine wp_region_mono [.any (IsTr (tAt [97])), .any (IsTr (tAt [98])), .any (IsTr (tVr 0)), .any (IsSl [(tAt [98]), (tVr 0)]), .any (IsTr (tFn [46] [(tAt [98]), (tVr 0)])), .any (IsSl [(tAt [97]), (tFn [46] [(tAt [98]), (tVr 0)])]), .any (IsTr (tFn [46] [(tAt [97]), (tFn [46] [(tAt [98]), (tVr 0)])])), .det (.bool true), .det (.bool false), .det (.bool false), .any (IsTr (.node 6 0 (nm []) [])), .det (.bool true), .det (.bool false), .det (.bool false), .det (.bool false), .any (IsTr (tAt [43])), .det (.bool true), .det (.bool false), .det (.bool false)] (by kernel_rfl) (by kernel_rfl) ?_ ?_
  · intro y hy
    simp only [List.mem_cons, List.not_mem_nil, or_false] at hy
    rcases hy with rfl | rfl | rfl | rfl | rfl | rfl | rfl | rfl | rfl | rfl | rfl | rfl | rfl | rfl | rfl | rfl | rfl | rfl | rfl <;> first | trivial | exact IsSl.stable _ | exact IsTr.stable _
  rw [wpM]
  go_simp
  apply And.intro
  · intro w' hC hd
    obtain ⟨k, n, t, x, m, c, hb, ht⟩ := TrBox.up (HTA.out) hC
    have l0 := hb.lt
    have q0 := hb.cell 0
    have q1 := hb.cell 1
    have q2 := hb.cell 2
    have q3 := hb.cell 3
    simp only [List.getElem?_toArray, List.getElem?_cons_succ, List.getElem?_cons_zero] at q0 q1 q2 q3
    clear hC hd
    go_simp
    first | exact ⟨Ext.refl _, ht⟩ | exact Ext.refl _
  simp only [nextM]
  intro y0
  rw [wpM]
  go_simp
  apply And.intro
  · intro w' hC hd
    obtain ⟨k, n, t, x, m, c, hb, ht⟩ := TrBox.up (HTB.out) hC
    have l0 := hb.lt
    have q0 := hb.cell 0
    have q1 := hb.cell 1
    have q2 := hb.cell 2
    have q3 := hb.cell 3
    simp only [List.getElem?_toArray, List.getElem?_cons_succ, List.getElem?_cons_zero] at q0 q1 q2 q3
    clear hC hd
    go_simp
    first | exact ⟨Ext.refl _, ht⟩ | exact Ext.refl _
  simp only [nextM]
  intro y1
  rw [wpM]
  go_simp
  apply And.intro
  · intro w' hC hd
    clear hC hd
    go_simp
    refine ⟨Ext.refl _, (law2Variable_any (0) (by unfold okI; omega) _).mono ?_⟩
    rintro e w2 ⟨u, rfl, hB, h⟩
    exact ⟨_, rfl, hB, h⟩
  simp only [nextM]
  intro y2
  rw [wpM]
  go_simp
  apply And.intro
  · intro w' hC hd
    have k1 : IsTr (tAt [98]) y1 w' := hd ⟨1, .data⟩ (by simp) rfl y1 rfl
    have k2 : IsTr (tVr 0) y2 w' := hd ⟨2, .data⟩ (by simp) rfl y2 rfl
    obtain ⟨p1, p1a, p1b, p1c, p1d, p1e, rfl⟩ := tr_form k1
    obtain ⟨p2, p2a, p2b, p2c, p2d, p2e, rfl⟩ := tr_form k2
    clear hC hd
    go_simp
    exact ⟨below_a1 (Nat.le_refl _) _, isSl2 k1 k2⟩
  simp only [nextM]
  intro y3
  rw [wpM]
  go_simp
  apply And.intro
  · intro w' hC hd
    have k3 : IsSl [(tAt [98]), (tVr 0)] y3 w' := hd ⟨3, .data⟩ (by simp) rfl y3 rfl
    clear hC hd
    go_simp
    refine ⟨Ext.refl _, (law2Fun_any ⟨#[46]⟩ (by decide) [(tAt [98]), (tVr 0)] y3 _ k3).mono ?_⟩
    rintro e w2 ⟨u, rfl, hB, h⟩
    exact ⟨_, rfl, hB, h⟩
  simp only [nextM]
  intro y4
  rw [wpM]
  go_simp
  apply And.intro
  · intro w' hC hd
    have k0 : IsTr (tAt [97]) y0 w' := hd ⟨0, .data⟩ (by simp) rfl y0 rfl
    have k4 : IsTr (tFn [46] [(tAt [98]), (tVr 0)]) y4 w' := hd ⟨4, .data⟩ (by simp) rfl y4 rfl
    obtain ⟨p0, p0a, p0b, p0c, p0d, p0e, rfl⟩ := tr_form k0
    obtain ⟨p4, p4a, p4b, p4c, p4d, p4e, rfl⟩ := tr_form k4
    clear hC hd
    go_simp
    exact ⟨below_a1 (Nat.le_refl _) _, isSl2 k0 k4⟩
  simp only [nextM]
  intro y5
  rw [wpM]
  go_simp
  apply And.intro
  · intro w' hC hd
    have k5 : IsSl [(tAt [97]), (tFn [46] [(tAt [98]), (tVr 0)])] y5 w' := hd ⟨5, .data⟩ (by simp) rfl y5 rfl
    clear hC hd
    go_simp
    refine ⟨Ext.refl _, (law2Fun_any ⟨#[46]⟩ (by decide) [(tAt [97]), (tFn [46] [(tAt [98]), (tVr 0)])] y5 _ k5).mono ?_⟩
    rintro e w2 ⟨u, rfl, hB, h⟩
    exact ⟨_, rfl, hB, h⟩
  simp only [nextM]
  intro y6
  rw [wpM]
  go_simp
  apply And.intro
  · intro w' hC hd
    have k6 : IsTr (tFn [46] [(tAt [97]), (tFn [46] [(tAt [98]), (tVr 0)])]) y6 w' := hd ⟨6, .data⟩ (by simp) rfl y6 rfl
    have hc := HC.out w' (HBW.out.trans (Below.mono hC HBW.out.size))
    obtain ⟨ns, hp⟩ := rd4
    clear hC hd
    go_simp
    refine ⟨Ext.refl _, (reads_true _ _ ns hp (by decide) _ w' mm hc k6).mono ?_⟩
    rintro e w2 ⟨rfl, hB⟩
    exact ⟨rfl, hB⟩
  simp only [nextM]
  rw [wpM]
  go_simp
  apply And.intro
  · intro w' hC hd
    have q1 := hC.old.1
    have hbs := hC.old.2.2
    clear hC hd
    go_simp
    first | exact ⟨Ext.refl _, rfl⟩ | exact Ext.refl _
  simp only [nextM]
  rw [wpM]
  go_simp
  apply And.intro
  · intro w' hC hd
    have q1 := hC.old.1
    have hbs := hC.old.2.2
    clear hC hd
    go_simp
    first | exact ⟨Ext.refl _, rfl⟩ | exact Ext.refl _
  simp only [nextM]
  rw [wpM]
  go_simp
  apply And.intro
  · intro w' hC hd
    clear hC hd
    go_simp
    exact ⟨Ext.refl _, IsT.mk (by unfold okI; omega) (by unfold okI; omega) (by decide) (Nat.le_refl _) (by unfold maxLen; omega) IsL.nil⟩
  simp only [nextM]
  intro y10
  rw [wpM]
  go_simp
  apply And.intro
  · intro w' hC hd
    have k10 : IsTr (.node 6 0 (nm []) []) y10 w' := hd ⟨10, .data⟩ (by simp) rfl y10 rfl
    have hc := HC.out w' (HBW.out.trans (Below.mono hC HBW.out.size))
    obtain ⟨ns, hp⟩ := rd5
    clear hC hd
    go_simp
    refine ⟨Ext.refl _, (reads_true _ _ ns hp (by decide) _ w' mm hc k10).mono ?_⟩
    rintro e w2 ⟨rfl, hB⟩
    exact ⟨rfl, hB⟩
  simp only [nextM]
  rw [wpM]
  go_simp
  apply And.intro
  · intro w' hC hd
    have q1 := hC.old.1
    have hbs := hC.old.2.2
    clear hC hd
    go_simp
    first | exact ⟨Ext.refl _, rfl⟩ | exact Ext.refl _
  simp only [nextM]
  rw [wpM]
  go_simp
  apply And.intro
  · intro w' hC hd
    have q1 := hC.old.1
    have hbs := hC.old.2.2
    clear hC hd
    go_simp
    first | exact ⟨Ext.refl _, rfl⟩ | exact Ext.refl _
  simp only [nextM]
  rw [wpM]
  go_simp
  apply And.intro
  · intro w' hC hd
    have q1 := hC.old.1
    have hbs := hC.old.2.2
    clear hC hd
    go_simp
    first | exact ⟨Ext.refl _, rfl⟩ | exact Ext.refl _
  simp only [nextM]
  rw [wpM]
  go_simp
  apply And.intro
  · intro w' hC hd
    clear hC hd
    go_simp
    refine ⟨Ext.refl _, (law2Atom_any ⟨#[43]⟩ (by decide) _).mono ?_⟩
    rintro e w2 ⟨u, rfl, hB, h⟩
    exact ⟨_, rfl, hB, h⟩
  simp only [nextM]
  intro y15
  rw [wpM]
  go_simp
  apply And.intro
  · intro w' hC hd
    have k15 : IsTr (tAt [43]) y15 w' := hd ⟨15, .data⟩ (by simp) rfl y15 rfl
    have hc := HC.out w' (HBW.out.trans (Below.mono hC HBW.out.size))
    obtain ⟨ns, hp⟩ := rd6
    clear hC hd
    go_simp
    refine ⟨Ext.refl _, (reads_true _ _ ns hp (by decide) _ w' mm hc k15).mono ?_⟩
    rintro e w2 ⟨rfl, hB⟩
    exact ⟨rfl, hB⟩
  simp only [nextM]
  rw [wpM]
  go_simp
  apply And.intro
  · intro w' hC hd
    have q1 := hC.old.1
    have hbs := hC.old.2.2
    clear hC hd
    go_simp
    first | exact ⟨Ext.refl _, rfl⟩ | exact Ext.refl _
  simp only [nextM]
  rw [wpM]
  go_simp
  apply And.intro
  · intro w' hC hd
    have q1 := hC.old.1
    have hbs := hC.old.2.2
    clear hC hd
    go_simp
    first | exact ⟨Ext.refl _, rfl⟩ | exact Ext.refl _
  simp only [nextM]
  refine wpM_nil ?_
  intro V4 hC1 _
  have hC2 : Ext _ V4 := hC1
  replace HTA := Lib.hid (HTA.out.up hC2)
  replace HTB := Lib.hid (HTB.out.up hC2)
  replace HTC := Lib.hid (HTC.out.up hC2)
  replace HBW := Lib.hid (HBW.out.trans (Below.mono hC2 HBW.out.size))
  clear hC1 hC2
  go_wp2_with fail
  refine (readTerm_any ⟨#[97, 32, 61, 32, 98, 32, 61, 32, 99]⟩ V4 (by decide) mm (HC.out V4 HBW.out).mx (HC.out V4 HBW.out).ml).mono ?_
  rintro e V5 ⟨hB5, hQ⟩
  rw [rdE] at hQ
  obtain rfl : e = .returned (.tuple #[.agg #[.int .i64 0, .int .i64 0, .string ⟨#[]⟩, .slice none 0 0], .slice none 0 0, .int .i64 6, .int .i64 21]) := hQ
  have hE6 : Ext V4 (V5.alloc (.cells #[.int .i64 0, .int .i64 0, .string ⟨#[]⟩, .slice none 0 0] 31)) := hB5.trans ((below_a1 (Nat.le_refl _) _).mono hB5.size)
  replace HTA := Lib.hid (HTA.out.up hE6)
  replace HTB := Lib.hid (HTB.out.up hE6)
  replace HTC := Lib.hid (HTC.out.up hE6)
  replace HBW := Lib.hid (HBW.out.trans (Below.mono hE6 HBW.out.size))
  clear hE6 hB5
  go_wp2_with fail
  generalize V5.alloc (.cells #[.int .i64 0, .int .i64 0, .string ⟨#[]⟩, .slice none 0 0] 31) = V6 at *
  refine wp_region_mono [.any (IsTr (tAt [97])), .any (IsTr (tAt [98])), .any (IsTr (tAt [99])), .any (IsSl [(tAt [98]), (tAt [99])]), .any (IsTr (tFn [45] [(tAt [98]), (tAt [99])])), .any (IsSl [(tAt [97]), (tFn [45] [(tAt [98]), (tAt [99])])]), .any (IsTr (tFn [45] [(tAt [97]), (tFn [45] [(tAt [98]), (tAt [99])])])), .det (.bool true), .det (.bool false), .det (.bool false), .any (IsTr (tAt [97])), .any (IsTr (tAt [98])), .any (IsSl [(tAt [97]), (tAt [98])]), .any (IsTr (tFn [45] [(tAt [97]), (tAt [98])])), .any (IsTr (tAt [99])), .any (IsSl [(tFn [45] [(tAt [97]), (tAt [98])]), (tAt [99])]), .any (IsTr (tFn [45] [(tFn [45] [(tAt [97]), (tAt [98])]), (tAt [99])])), .det (.bool true), .det (.bool false), .det (.bool false), .det (.bool false), .any (IsTr (tIn (1))), .any (IsSl [(tIn (1))]), .any (IsTr (tFn [45] [(tIn (1))])), .det (.bool true), .det (.bool false), .det (.bool false), .det (.bool false), .any (IsTr (tAt [97])), .any (IsTr (tIn (-1))), .any (IsSl [(tAt [97]), (tIn (-1))]), .any (IsTr (tFn [42] [(tAt [97]), (tIn (-1))])), .det (.bool true), .det (.bool false), .det (.bool false), .det (.bool false), .any (IsTr (tAt [97])), .any (IsTr (tAt [98])), .any (IsSl [(tAt [97]), (tAt [98])]), .any (IsTr (tFn [109, 111, 100] [(tAt [97]), (tAt [98])])), .det (.bool true), .det (.bool false), .det (.bool false)] (by kernel_rfl) (by kernel_rfl) ?_ ?_
  · intro y hy
    simp only [List.mem_cons, List.not_mem_nil, or_false] at hy
    rcases hy with rfl | rfl | rfl | rfl | rfl | rfl | rfl | rfl | rfl | rfl | rfl | rfl | rfl | rfl | rfl | rfl | rfl | rfl | rfl | rfl | rfl | rfl | rfl | rfl | rfl | rfl | rfl | rfl | rfl | rfl | rfl | rfl | rfl | rfl | rfl | rfl | rfl | rfl | rfl | rfl | rfl | rfl | rfl <;> first | trivial | exact IsSl.stable _ | exact IsTr.stable _
  rw [wpM]
  go_simp
  apply And.intro
  · intro w' hC hd
    obtain ⟨k, n, t, x, m, c, hb, ht⟩ := TrBox.up (HTA.out) hC
    have l0 := hb.lt
    have q0 := hb.cell 0
    have q1 := hb.cell 1
    have q2 := hb.cell 2
    have q3 := hb.cell 3
    simp only [List.getElem?_toArray, List.getElem?_cons_succ, List.getElem?_cons_zero] at q0 q1 q2 q3
    clear hC hd
    go_simp
    first | exact ⟨Ext.refl _, ht⟩ | exact Ext.refl _
  simp only [nextM]
  intro y0
  rw [wpM]
  go_simp
  apply And.intro
  · intro w' hC hd
    obtain ⟨k, n, t, x, m, c, hb, ht⟩ := TrBox.up (HTB.out) hC
    have l0 := hb.lt
    have q0 := hb.cell 0
    have q1 := hb.cell 1
    have q2 := hb.cell 2
    have q3 := hb.cell 3
    simp only [List.getElem?_toArray, List.getElem?_cons_succ, List.getElem?_cons_zero] at q0 q1 q2 q3
    clear hC hd
    go_simp
    first | exact ⟨Ext.refl _, ht⟩ | exact Ext.refl _
  simp only [nextM]
  intro y1
  rw [wpM]
  go_simp
  apply And.intro
  · intro w' hC hd
    obtain ⟨k, n, t, x, m, c, hb, ht⟩ := TrBox.up (HTC.out) hC
    have l0 := hb.lt
    have q0 := hb.cell 0
    have q1 := hb.cell 1
    have q2 := hb.cell 2
    have q3 := hb.cell 3
    simp only [List.getElem?_toArray, List.getElem?_cons_succ, List.getElem?_cons_zero] at q0 q1 q2 q3
    clear hC hd
    go_simp
    first | exact ⟨Ext.refl _, ht⟩ | exact Ext.refl _
  simp only [nextM]
  intro y2
  rw [wpM]
  go_simp
  apply And.intro
  · intro w' hC hd
    have k1 : IsTr (tAt [98]) y1 w' := hd ⟨1, .data⟩ (by simp) rfl y1 rfl
    have k2 : IsTr (tAt [99]) y2 w' := hd ⟨2, .data⟩ (by simp) rfl y2 rfl
    obtain ⟨p1, p1a, p1b, p1c, p1d, p1e, rfl⟩ := tr_form k1
    obtain ⟨p2, p2a, p2b, p2c, p2d, p2e, rfl⟩ := tr_form k2
    clear hC hd
    go_simp
    exact ⟨below_a1 (Nat.le_refl _) _, isSl2 k1 k2⟩
  simp only [nextM]
  intro y3
  rw [wpM]
  go_simp
  apply And.intro
  · intro w' hC hd
    have k3 : IsSl [(tAt [98]), (tAt [99])] y3 w' := hd ⟨3, .data⟩ (by simp) rfl y3 rfl
    clear hC hd
    go_simp
    refine ⟨Ext.refl _, (law2Fun_any ⟨#[45]⟩ (by decide) [(tAt [98]), (tAt [99])] y3 _ k3).mono ?_⟩
    rintro e w2 ⟨u, rfl, hB, h⟩
    exact ⟨_, rfl, hB, h⟩
  simp only [nextM]
  intro y4
  rw [wpM]
  go_simp
  apply And.intro
  · intro w' hC hd
    have k0 : IsTr (tAt [97]) y0 w' := hd ⟨0, .data⟩ (by simp) rfl y0 rfl
    have k4 : IsTr (tFn [45] [(tAt [98]), (tAt [99])]) y4 w' := hd ⟨4, .data⟩ (by simp) rfl y4 rfl
    obtain ⟨p0, p0a, p0b, p0c, p0d, p0e, rfl⟩ := tr_form k0
    obtain ⟨p4, p4a, p4b, p4c, p4d, p4e, rfl⟩ := tr_form k4
    clear hC hd
    go_simp
    exact ⟨below_a1 (Nat.le_refl _) _, isSl2 k0 k4⟩
  simp only [nextM]
  intro y5
  rw [wpM]
  go_simp
  apply And.intro
  · intro w' hC hd
    have k5 : IsSl [(tAt [97]), (tFn [45] [(tAt [98]), (tAt [99])])] y5 w' := hd ⟨5, .data⟩ (by simp) rfl y5 rfl
    clear hC hd
    go_simp
    refine ⟨Ext.refl _, (law2Fun_any ⟨#[45]⟩ (by decide) [(tAt [97]), (tFn [45] [(tAt [98]), (tAt [99])])] y5 _ k5).mono ?_⟩
    rintro e w2 ⟨u, rfl, hB, h⟩
    exact ⟨_, rfl, hB, h⟩
  simp only [nextM]
  intro y6
  rw [wpM]
  go_simp
  apply And.intro
  · intro w' hC hd
    have k6 : IsTr (tFn [45] [(tAt [97]), (tFn [45] [(tAt [98]), (tAt [99])])]) y6 w' := hd ⟨6, .data⟩ (by simp) rfl y6 rfl
    have hc := HC.out w' (HBW.out.trans (Below.mono hC HBW.out.size))
    clear hC hd
    go_simp
    refine ⟨Ext.refl _, (writes_true _ _ wt0 _ w' mm hc (by decide) k6).mono ?_⟩
    rintro e w2 ⟨rfl, hB⟩
    exact ⟨rfl, hB⟩
  simp only [nextM]
  rw [wpM]
  go_simp
  apply And.intro
  · intro w' hC hd
    have q1 := hC.old.1
    have hbs := hC.old.2.2
    clear hC hd
    go_simp
    first | exact ⟨Ext.refl _, rfl⟩ | exact Ext.refl _
  simp only [nextM]
  rw [wpM]
  go_simp
  apply And.intro
  · intro w' hC hd
    have q1 := hC.old.1
    have hbs := hC.old.2.2
    clear hC hd
    go_simp
    first | exact ⟨Ext.refl _, rfl⟩ | exact Ext.refl _
  simp only [nextM]
  rw [wpM]
  go_simp
  apply And.intro
  · intro w' hC hd
    obtain ⟨k, n, t, x, m, c, hb, ht⟩ := TrBox.up (HTA.out) hC
    have l0 := hb.lt
    have q0 := hb.cell 0
    have q1 := hb.cell 1
    have q2 := hb.cell 2
    have q3 := hb.cell 3
    simp only [List.getElem?_toArray, List.getElem?_cons_succ, List.getElem?_cons_zero] at q0 q1 q2 q3
    clear hC hd
    go_simp
    first | exact ⟨Ext.refl _, ht⟩ | exact Ext.refl _
  simp only [nextM]
  intro y10
  rw [wpM]
  go_simp
  apply And.intro
  · intro w' hC hd
    obtain ⟨k, n, t, x, m, c, hb, ht⟩ := TrBox.up (HTB.out) hC
    have l0 := hb.lt
    have q0 := hb.cell 0
    have q1 := hb.cell 1
    have q2 := hb.cell 2
    have q3 := hb.cell 3
    simp only [List.getElem?_toArray, List.getElem?_cons_succ, List.getElem?_cons_zero] at q0 q1 q2 q3
    clear hC hd
    go_simp
    first | exact ⟨Ext.refl _, ht⟩ | exact Ext.refl _
  simp only [nextM]
  intro y11
  rw [wpM]
  go_simp
  apply And.intro
  · intro w' hC hd
    have k10 : IsTr (tAt [97]) y10 w' := hd ⟨10, .data⟩ (by simp) rfl y10 rfl
    have k11 : IsTr (tAt [98]) y11 w' := hd ⟨11, .data⟩ (by simp) rfl y11 rfl
    obtain ⟨p10, p10a, p10b, p10c, p10d, p10e, rfl⟩ := tr_form k10
    obtain ⟨p11, p11a, p11b, p11c, p11d, p11e, rfl⟩ := tr_form k11
    clear hC hd
    go_simp
    exact ⟨below_a1 (Nat.le_refl _) _, isSl2 k10 k11⟩
  simp only [nextM]
  intro y12
  rw [wpM]
  go_simp
  apply And.intro
  · intro w' hC hd
    have k12 : IsSl [(tAt [97]), (tAt [98])] y12 w' := hd ⟨12, .data⟩ (by simp) rfl y12 rfl
    clear hC hd
    go_simp
    refine ⟨Ext.refl _, (law2Fun_any ⟨#[45]⟩ (by decide) [(tAt [97]), (tAt [98])] y12 _ k12).mono ?_⟩
    rintro e w2 ⟨u, rfl, hB, h⟩
    exact ⟨_, rfl, hB, h⟩
  simp only [nextM]
  intro y13
  rw [wpM]
  go_simp
  apply And.intro
  · intro w' hC hd
    obtain ⟨k, n, t, x, m, c, hb, ht⟩ := TrBox.up (HTC.out) hC
    have l0 := hb.lt
    have q0 := hb.cell 0
    have q1 := hb.cell 1
    have q2 := hb.cell 2
    have q3 := hb.cell 3
    simp only [List.getElem?_toArray, List.getElem?_cons_succ, List.getElem?_cons_zero] at q0 q1 q2 q3
    clear hC hd
    go_simp
    first | exact ⟨Ext.refl _, ht⟩ | exact Ext.refl _
  simp only [nextM]
  intro y14
  rw [wpM]
  go_simp
  apply And.intro
  · intro w' hC hd
    have k13 : IsTr (tFn [45] [(tAt [97]), (tAt [98])]) y13 w' := hd ⟨13, .data⟩ (by simp) rfl y13 rfl
    have k14 : IsTr (tAt [99]) y14 w' := hd ⟨14, .data⟩ (by simp) rfl y14 rfl
    obtain ⟨p13, p13a, p13b, p13c, p13d, p13e, rfl⟩ := tr_form k13
    obtain ⟨p14, p14a, p14b, p14c, p14d, p14e, rfl⟩ := tr_form k14
    clear hC hd
    go_simp
    exact ⟨below_a1 (Nat.le_refl _) _, isSl2 k13 k14⟩
  simp only [nextM]
  intro y15
  rw [wpM]
  go_simp
  apply And.intro
  · intro w' hC hd
    have k15 : IsSl [(tFn [45] [(tAt [97]), (tAt [98])]), (tAt [99])] y15 w' := hd ⟨15, .data⟩ (by simp) rfl y15 rfl
    clear hC hd
    go_simp
    refine ⟨Ext.refl _, (law2Fun_any ⟨#[45]⟩ (by decide) [(tFn [45] [(tAt [97]), (tAt [98])]), (tAt [99])] y15 _ k15).mono ?_⟩
    rintro e w2 ⟨u, rfl, hB, h⟩
    exact ⟨_, rfl, hB, h⟩
  simp only [nextM]
  intro y16
  rw [wpM]
  go_simp
  apply And.intro
  · intro w' hC hd
    have k16 : IsTr (tFn [45] [(tFn [45] [(tAt [97]), (tAt [98])]), (tAt [99])]) y16 w' := hd ⟨16, .data⟩ (by simp) rfl y16 rfl
    have hc := HC.out w' (HBW.out.trans (Below.mono hC HBW.out.size))
    clear hC hd
    go_simp
    refine ⟨Ext.refl _, (writes_true _ _ wt1 _ w' mm hc (by decide) k16).mono ?_⟩
    rintro e w2 ⟨rfl, hB⟩
    exact ⟨rfl, hB⟩
  simp only [nextM]
  rw [wpM]
  go_simp
  apply And.intro
  · intro w' hC hd
    have q1 := hC.old.1
    have hbs := hC.old.2.2
    clear hC hd
    go_simp
    first | exact ⟨Ext.refl _, rfl⟩ | exact Ext.refl _
  simp only [nextM]
  rw [wpM]
  go_simp
  apply And.intro
  · intro w' hC hd
    have q1 := hC.old.1
    have hbs := hC.old.2.2
    clear hC hd
    go_simp
    first | exact ⟨Ext.refl _, rfl⟩ | exact Ext.refl _
  simp only [nextM]
  rw [wpM]
  go_simp
  apply And.intro
  · intro w' hC hd
    have q1 := hC.old.1
    have hbs := hC.old.2.2
    clear hC hd
    go_simp
    first | exact ⟨Ext.refl _, rfl⟩ | exact Ext.refl _
  simp only [nextM]
  rw [wpM]
  go_simp
  apply And.intro
  · intro w' hC hd
    clear hC hd
    go_simp
    refine ⟨Ext.refl _, (law2Number_any (1) (by unfold okI; omega) _).mono ?_⟩
    rintro e w2 ⟨u, rfl, hB, h⟩
    exact ⟨_, rfl, hB, h⟩
  simp only [nextM]
  intro y21
  rw [wpM]
  go_simp
  apply And.intro
  · intro w' hC hd
    have k21 : IsTr (tIn (1)) y21 w' := hd ⟨21, .data⟩ (by simp) rfl y21 rfl
    obtain ⟨p21, p21a, p21b, p21c, p21d, p21e, rfl⟩ := tr_form k21
    clear hC hd
    go_simp
    exact ⟨below_a1 (Nat.le_refl _) _, isSl1 k21⟩
  simp only [nextM]
  intro y22
  rw [wpM]
  go_simp
  apply And.intro
  · intro w' hC hd
    have k22 : IsSl [(tIn (1))] y22 w' := hd ⟨22, .data⟩ (by simp) rfl y22 rfl
    clear hC hd
    go_simp
    refine ⟨Ext.refl _, (law2Fun_any ⟨#[45]⟩ (by decide) [(tIn (1))] y22 _ k22).mono ?_⟩
    rintro e w2 ⟨u, rfl, hB, h⟩
    exact ⟨_, rfl, hB, h⟩
  simp only [nextM]
  intro y23
  rw [wpM]
  go_simp
  apply And.intro
  · intro w' hC hd
    have k23 : IsTr (tFn [45] [(tIn (1))]) y23 w' := hd ⟨23, .data⟩ (by simp) rfl y23 rfl
    have hc := HC.out w' (HBW.out.trans (Below.mono hC HBW.out.size))
    clear hC hd
    go_simp
    refine ⟨Ext.refl _, (writes_true _ _ wt2 _ w' mm hc (by decide) k23).mono ?_⟩
    rintro e w2 ⟨rfl, hB⟩
    exact ⟨rfl, hB⟩
  simp only [nextM]
  rw [wpM]
  go_simp
  apply And.intro
  · intro w' hC hd
    have q1 := hC.old.1
    have hbs := hC.old.2.2
    clear hC hd
    go_simp
    first | exact ⟨Ext.refl _, rfl⟩ | exact Ext.refl _
  simp only [nextM]
  rw [wpM]
  go_simp
  apply And.intro
  · intro w' hC hd
    have q1 := hC.old.1
    have hbs := hC.old.2.2
    clear hC hd
    go_simp
    first | exact ⟨Ext.refl _, rfl⟩ | exact Ext.refl _
  simp only [nextM]
  rw [wpM]
  go_simp
  apply And.intro
  · intro w' hC hd
    have q1 := hC.old.1
    have hbs := hC.old.2.2
    clear hC hd
    go_simp
    first | exact ⟨Ext.refl _, rfl⟩ | exact Ext.refl _
  simp only [nextM]
  rw [wpM]
  go_simp
  apply And.intro
  · intro w' hC hd
    obtain ⟨k, n, t, x, m, c, hb, ht⟩ := TrBox.up (HTA.out) hC
    have l0 := hb.lt
    have q0 := hb.cell 0
    have q1 := hb.cell 1
    have q2 := hb.cell 2
    have q3 := hb.cell 3
    simp only [List.getElem?_toArray, List.getElem?_cons_succ, List.getElem?_cons_zero] at q0 q1 q2 q3
    clear hC hd
    go_simp
    first | exact ⟨Ext.refl _, ht⟩ | exact Ext.refl _
  simp only [nextM]
  intro y28
  rw [wpM]
  go_simp
  apply And.intro
  · intro w' hC hd
    clear hC hd
    go_simp
    refine ⟨Ext.refl _, (law2Number_any (-1) (by unfold okI; omega) _).mono ?_⟩
    rintro e w2 ⟨u, rfl, hB, h⟩
    exact ⟨_, rfl, hB, h⟩
  simp only [nextM]
  intro y29
  rw [wpM]
  go_simp
  apply And.intro
  · intro w' hC hd
    have k28 : IsTr (tAt [97]) y28 w' := hd ⟨28, .data⟩ (by simp) rfl y28 rfl
    have k29 : IsTr (tIn (-1)) y29 w' := hd ⟨29, .data⟩ (by simp) rfl y29 rfl
    obtain ⟨p28, p28a, p28b, p28c, p28d, p28e, rfl⟩ := tr_form k28
    obtain ⟨p29, p29a, p29b, p29c, p29d, p29e, rfl⟩ := tr_form k29
    clear hC hd
    go_simp
    exact ⟨below_a1 (Nat.le_refl _) _, isSl2 k28 k29⟩
  simp only [nextM]
  intro y30
  rw [wpM]
  go_simp
  apply And.intro
  · intro w' hC hd
    have k30 : IsSl [(tAt [97]), (tIn (-1))] y30 w' := hd ⟨30, .data⟩ (by simp) rfl y30 rfl
    clear hC hd
    go_simp
    refine ⟨Ext.refl _, (law2Fun_any ⟨#[42]⟩ (by decide) [(tAt [97]), (tIn (-1))] y30 _ k30).mono ?_⟩
    rintro e w2 ⟨u, rfl, hB, h⟩
    exact ⟨_, rfl, hB, h⟩
  simp only [nextM]
  intro y31
  rw [wpM]
  go_simp
  apply And.intro
  · intro w' hC hd
    have k31 : IsTr (tFn [42] [(tAt [97]), (tIn (-1))]) y31 w' := hd ⟨31, .data⟩ (by simp) rfl y31 rfl
    have hc := HC.out w' (HBW.out.trans (Below.mono hC HBW.out.size))
    clear hC hd
    go_simp
    refine ⟨Ext.refl _, (writes_true _ _ wt3 _ w' mm hc (by decide) k31).mono ?_⟩
    rintro e w2 ⟨rfl, hB⟩
    exact ⟨rfl, hB⟩
  simp only [nextM]
  rw [wpM]
  go_simp
  apply And.intro
  · intro w' hC hd
    have q1 := hC.old.1
    have hbs := hC.old.2.2
    clear hC hd
    go_simp
    first | exact ⟨Ext.refl _, rfl⟩ | exact Ext.refl _
  simp only [nextM]
  rw [wpM]
  go_simp
  apply And.intro
  · intro w' hC hd
    have q1 := hC.old.1
    have hbs := hC.old.2.2
    clear hC hd
    go_simp
    first | exact ⟨Ext.refl _, rfl⟩ | exact Ext.refl _
  simp only [nextM]
  rw [wpM]
  go_simp
  apply And.intro
  · intro w' hC hd
    have q1 := hC.old.1
    have hbs := hC.old.2.2
    clear hC hd
    go_simp
    first | exact ⟨Ext.refl _, rfl⟩ | exact Ext.refl _
  simp only [nextM]
  rw [wpM]
  go_simp
  apply And.intro
  · intro w' hC hd
    obtain ⟨k, n, t, x, m, c, hb, ht⟩ := TrBox.up (HTA.out) hC
    have l0 := hb.lt
    have q0 := hb.cell 0
    have q1 := hb.cell 1
    have q2 := hb.cell 2
    have q3 := hb.cell 3
    simp only [List.getElem?_toArray, List.getElem?_cons_succ, List.getElem?_cons_zero] at q0 q1 q2 q3
    clear hC hd
    go_simp
    first | exact ⟨Ext.refl _, ht⟩ | exact Ext.refl _
  simp only [nextM]
  intro y36
  rw [wpM]
  go_simp
  apply And.intro
  · intro w' hC hd
    obtain ⟨k, n, t, x, m, c, hb, ht⟩ := TrBox.up (HTB.out) hC
    have l0 := hb.lt
    have q0 := hb.cell 0
    have q1 := hb.cell 1
    have q2 := hb.cell 2
    have q3 := hb.cell 3
    simp only [List.getElem?_toArray, List.getElem?_cons_succ, List.getElem?_cons_zero] at q0 q1 q2 q3
    clear hC hd
    go_simp
    first | exact ⟨Ext.refl _, ht⟩ | exact Ext.refl _
  simp only [nextM]
  intro y37
  rw [wpM]
  go_simp
  apply And.intro
  · intro w' hC hd
    have k36 : IsTr (tAt [97]) y36 w' := hd ⟨36, .data⟩ (by simp) rfl y36 rfl
    have k37 : IsTr (tAt [98]) y37 w' := hd ⟨37, .data⟩ (by simp) rfl y37 rfl
    obtain ⟨p36, p36a, p36b, p36c, p36d, p36e, rfl⟩ := tr_form k36
    obtain ⟨p37, p37a, p37b, p37c, p37d, p37e, rfl⟩ := tr_form k37
    clear hC hd
    go_simp
    exact ⟨below_a1 (Nat.le_refl _) _, isSl2 k36 k37⟩
  simp only [nextM]
  intro y38
  rw [wpM]
  go_simp
  apply And.intro
  · intro w' hC hd
    have k38 : IsSl [(tAt [97]), (tAt [98])] y38 w' := hd ⟨38, .data⟩ (by simp) rfl y38 rfl
    clear hC hd
    go_simp
    refine ⟨Ext.refl _, (law2Fun_any ⟨#[109, 111, 100]⟩ (by decide) [(tAt [97]), (tAt [98])] y38 _ k38).mono ?_⟩
    rintro e w2 ⟨u, rfl, hB, h⟩
    exact ⟨_, rfl, hB, h⟩
  simp only [nextM]
  intro y39
  rw [wpM]
  go_simp
  apply And.intro
  · intro w' hC hd
    have k39 : IsTr (tFn [109, 111, 100] [(tAt [97]), (tAt [98])]) y39 w' := hd ⟨39, .data⟩ (by simp) rfl y39 rfl
    have hc := HC.out w' (HBW.out.trans (Below.mono hC HBW.out.size))
    clear hC hd
    go_simp
    refine ⟨Ext.refl _, (writes_true _ _ wt4 _ w' mm hc (by decide) k39).mono ?_⟩
    rintro e w2 ⟨rfl, hB⟩
    exact ⟨rfl, hB⟩
  simp only [nextM]
  rw [wpM]
  go_simp
  apply And.intro
  · intro w' hC hd
    have q1 := hC.old.1
    have hbs := hC.old.2.2
    clear hC hd
    go_simp
    first | exact ⟨Ext.refl _, rfl⟩ | exact Ext.refl _
  simp only [nextM]
  rw [wpM]
  go_simp
  apply And.intro
  · intro w' hC hd
    have q1 := hC.old.1
    have hbs := hC.old.2.2
    clear hC hd
    go_simp
    first | exact ⟨Ext.refl _, rfl⟩ | exact Ext.refl _
  simp only [nextM]
  refine wpM_nil ?_
  intro V7 hC1 _
  have hC2 : Ext _ V7 := hC1
  replace HTA := Lib.hid (HTA.out.up hC2)
  replace HTB := Lib.hid (HTB.out.up hC2)
  replace HTC := Lib.hid (HTC.out.up hC2)
  replace HBW := Lib.hid (HBW.out.trans (Below.mono hC2 HBW.out.size))
  clear hC1 hC2
  obtain ⟨ka, na, ta, xa, ma, ca, hba, hta⟩ := HTA.out
  obtain ⟨kb, nb, tb, xb, mb, cb, hbb, htb⟩ := HTB.out
  have qa0 := hba.cell 0
  have qa1 := hba.cell 1
  have qa2 := hba.cell 2
  have qa3 := hba.cell 3
  have la := hba.lt
  have qb0 := hbb.cell 0
  have qb1 := hbb.cell 1
  have qb2 := hbb.cell 2
  have qb3 := hbb.cell 3
  have lb := hbb.lt
  simp only [List.getElem?_toArray, List.getElem?_cons_succ, List.getElem?_cons_zero] at qa0 qa1 qa2 qa3 qb0 qb1 qb2 qb3
  have hs2 := isSl2 (show IsTr (tAt [97]) _ V7 from hta) htb
  have hBs := below_a1 (Nat.le_refl V7.heap.size) (.cells #[.int .i64 ka, .int .i64 na, .string ta, .slice xa ma ca, .int .i64 kb, .int .i64 nb, .string tb, .slice xb mb cb] 31)
  have HS2 := Lib.hid (And.intro hs2 hBs)
  clear hs2 hBs
  go_wp2_with fail
  refine (law2Fun_any ⟨#[58, 45]⟩ (by decide) [(tAt [97]), (tAt [98])] _ _ HS2.out.1).mono ?_
  rintro e V8 ⟨u8, rfl, hB8, h8⟩
  obtain ⟨k8, n8, t8, x8, m8, c8, rfl⟩ := tr_form h8
  have HB8 := Lib.hid (HBW.out.trans ((HS2.out.2.trans (hB8.mono HS2.out.2.size)).mono HBW.out.size))
  have hs3 := isSl1 h8
  have hBs3 := below_a1 (Nat.le_refl V8.heap.size) (.cells #[.int .i64 k8, .int .i64 n8, .string t8, .slice x8 m8 c8] 31)
  have HS3 := Lib.hid (And.intro hs3 (HB8.out.trans (hBs3.mono HB8.out.size)))
  clear hs3 hBs3 hB8 h8 qa0 qa1 qa2 qa3 qb0 qb1 qb2 qb3 la lb
  go_wp2_with fail
  refine (law2Fun_any ⟨#[58, 45]⟩ (by decide) [(tFn [58, 45] [(tAt [97]), (tAt [98])])] _ _ HS3.out.1).mono ?_
  rintro e V9 ⟨u9, rfl, hB9, h9⟩
  have HB9 := Lib.hid (HS3.out.2.trans (hB9.mono HS3.out.2.size))
  have HW9 := Lib.hid (writes_true _ _ wt5 _ V9 mm (HC.out V9 HB9.out) (by decide) h9)
  clear hB9 h9
  go_wp2_with fail
  refine (HW9.out).mono ?_
  rintro e V10 ⟨rfl, hB10⟩
  have HB10 := Lib.hid (HB9.out.trans (hB10.mono HB9.out.size))
  clear hB10
  go_wp2_with fail
  refine (law2Variable_any 7 (by unfold okI; omega) _).mono ?_
  rintro e V11 ⟨u11, rfl, hB11, h11⟩
  obtain ⟨k11', n11', t11', x11', m11', c11', rfl⟩ := tr_form h11
  have HB11 := Lib.hid (HB10.out.trans (hB11.mono HB10.out.size))
  have H11 := Lib.hid h11
  clear hB11 h11
  go_wp2_with fail
  refine (law2Atom_any ⟨#[43]⟩ (by decide) _).mono ?_
  rintro e V12 ⟨u12, rfl, hB12, h12⟩
  obtain ⟨k12', n12', t12', x12', m12', c12', rfl⟩ := tr_form h12
  have HB12 := Lib.hid (HB11.out.trans (hB12.mono HB11.out.size))
  have H11b := Lib.hid (IsT.up H11.out hB12 hB12.size)
  have hst : IsTr (.node 4 0 (nm [97, 10]) []) (.agg #[.int .i64 4, .int .i64 0, .string ⟨#[97, 10]⟩, .slice none 0 0]) V12 := IsT.mk (by unfold okI; omega) (by unfold okI; omega) (by decide) (Nat.le_refl _) (by unfold maxLen; omega) IsL.nil
  have hs4 := isSl2 h12 hst
  have hBs4 := below_a1 (Nat.le_refl V12.heap.size) (.cells #[.int .i64 k12', .int .i64 n12', .string t12', .slice x12' m12' c12', .int .i64 4, .int .i64 0, .string ⟨#[97, 10]⟩, .slice none 0 0] 31)
  have HS4 := Lib.hid (And.intro hs4 (And.intro (HB12.out.trans (hBs4.mono HB12.out.size)) (IsT.up H11b.out hBs4 hBs4.size)))
  clear hB12 h12 hst hs4 hBs4
  go_wp2_with fail
  refine (law2Fun_any ⟨#[102]⟩ (by decide) [(tAt [43]), (.node 4 0 (nm [97, 10]) [])] _ _ HS4.out.1).mono ?_
  rintro e V13 ⟨u13, rfl, hB13, h13⟩
  obtain ⟨k13, n13, t13, x13, m13, c13, rfl⟩ := tr_form h13
  have HB13 := Lib.hid (HS4.out.2.1.trans (hB13.mono HS4.out.2.1.size))
  have hs5 := isSl2 (show IsTr (tVr 7) _ V13 from IsT.up HS4.out.2.2 hB13 hB13.size) h13
  have hBs5 := below_a1 (Nat.le_refl V13.heap.size) (.cells #[.int .i64 k11', .int .i64 n11', .string t11', .slice x11' m11' c11', .int .i64 k13, .int .i64 n13, .string t13, .slice x13 m13 c13] 31)
  have HS5 := Lib.hid (And.intro hs5 (HB13.out.trans (hBs5.mono HB13.out.size)))
  clear hB13 h13 hs5 hBs5
  go_wp2_with fail
  refine (law2Fun_any ⟨#[61]⟩ (by decide) [(tVr 7), (tFn [102] [(tAt [43]), (.node 4 0 (nm [97, 10]) [])])] _ _ HS5.out.1).mono ?_
  rintro e V14 ⟨u14, rfl, hB14, h14⟩
  have HB14 := Lib.hid (HS5.out.2.trans (hB14.mono HS5.out.2.size))
  have HW14 := Lib.hid (writes_true _ _ wt6 _ V14 mm (HC.out V14 HB14.out) (by decide) h14)
  clear hB14 h14
  go_wp2_with fail
  refine (HW14.out).mono ?_
  rintro e V15 ⟨rfl, hB15⟩
  have HB15 := Lib.hid (HB14.out.trans (hB15.mono HB14.out.size))
  clear hB15
  go_wp2_with fail
  go_ret
  exact ⟨rfl, HB15.out⟩
end Go.Proofs.YthfciekhmbfmfaaGreatDoor
