/- With which operator a term is written. -/
import Derived.Test.YthfciekhmbfmfaaGreatDoorVName
import Derived.Test.YthfciekhmbfmfaaGreatDoorWriL
namespace Go.Proofs.YthfciekhmbfmfaaGreatDoor
open Go.RowKit Go Go.Maps

attribute [local go_sem] Oper.semAt_some monoUpon Yld.says
theorem field_op0 (x y z : Int) (w : World) : (Instr.field 48 (.agg #[.int .i64 x, .int .i64 y, .int .i64 z]) 0).run Tryz.prog w = .ok (.int .i64 x) w := by kernel_rfl
section
variable {w : World} {B b1 b2 : Nat} {fv ov : Value} {plain : Bool} {st : WS} {W : World}
set_option maxRecDepth 100000 in
set_option maxHeartbeats 16000000 in
theorem operator_any : ∀ (T : Tr) (v : Value) (W : World) (st : WS) (ov : Value), WrSt w B b1 b2 fv plain st ov W → IsT w.heap.size w T v → Calls Tryz.prog 124 #[.pointer (some ⟨B, 0, none⟩), v] W fun e W' => e = .returned (opV (opF plain T)) ∧ Below W.heap.size W W' := by
  intro T
  induction T using Tr.ind with
  | h k n s l ih =>
  intro v W st ov h hT
  obtain ⟨a, c, rfl, hk1, hn1, hs1, hlc, hcm, hl⟩ := hT.open
  obtain ⟨m, hm⟩ : ∃ m, l.length = m := ⟨_, rfl⟩
  rw [hm] at hlc ⊢
  have hA := below_a2 (Nat.le_refl W.heap.size) (.cells #[.int .i64 k, .int .i64 n, .string s, .slice a m c] 31) (.cells #[.int .i64 0, .int .i64 0, .int .i64 0] 48)
  have hT0 : Box ((W.alloc (.cells #[.int .i64 k, .int .i64 n, .string s, .slice a m c] 31)).alloc (.cells #[.int .i64 0, .int .i64 0, .int .i64 0] 48)) W.heap.size #[.int .i64 k, .int .i64 n, .string s, .slice a m c] 31 := (Box.at rfl).alloc _
  have hO0 : Box ((W.alloc (.cells #[.int .i64 k, .int .i64 n, .string s, .slice a m c] 31)).alloc (.cells #[.int .i64 0, .int .i64 0, .int .i64 0] 48)) (W.heap.size + 1) #[.int .i64 0, .int .i64 0, .int .i64 0] 48 := Box.at (by simp)
  have h0 := h.up hA
  have hsz : ((W.alloc (.cells #[.int .i64 k, .int .i64 n, .string s, .slice a m c] 31)).alloc (.cells #[.int .i64 0, .int .i64 0, .int .i64 0] 48)).heap.size = W.heap.size + 2 := by simp
  have H0 := Lib.hid (And.intro hT0 (And.intro hO0 (And.intro h0 (And.intro hA hsz))))
  have HL := Lib.hid (And.intro hl (And.intro hm hcm))
  have c4 := h0.box.cell 4
  have l0 := h0.box.lt
  have q0 := hT0.cell 0
  have q2 := hT0.cell 2
  have q3 := hT0.cell 3
  have p0 := hO0.cell 0
  have p1 := hO0.cell 1
  have p2 := hO0.cell 2
  have z0 := hO0.frozen 0
  have z1 := hO0.frozen 1
  have z2 := hO0.frozen 2
  have lo := hO0.lt
  have lt := hT0.lt
  simp only [List.getElem?_toArray, List.getElem?_cons_succ, List.getElem?_cons_zero] at c4 q0 q2 q3 p0 p1 p2
  have HIH := Lib.hid ih
  have HH := Lib.hid h
  clear hT0 hO0 h0 hA hsz h hT hl hk1 hn1 hlc hcm ih
  generalize hW2 : ((W.alloc (.cells #[.int .i64 k, .int .i64 n, .string s, .slice a m c] 31)).alloc (.cells #[.int .i64 0, .int .i64 0, .int .i64 0] 48)) = X at *
  cases hp : plain with
  | true =>
    have HP : Hid (opF true (.node k n s l) = (0, 0, 0)) := op_zero (.inl rfl)
    rw [hp] at c4
    subst hp
    go_enter Tryz.func124, Tryz.ntmps124
    go_wp2_with fail
    have hbF := ((H0.out.2.1.set 0 (.int .i64 0)).set 1 (.int .i64 0)).set 2 (.int .i64 0)
    have hbel := ((H0.out.2.2.2.1.setCell (p := ⟨W.heap.size + 1, 0, none⟩) (by show W.heap.size ≤ W.heap.size + 1; omega) (.int .i64 0)).setCell (p := ⟨W.heap.size + 1, 1, none⟩) (by show W.heap.size ≤ W.heap.size + 1; omega) (.int .i64 0)).setCell (p := ⟨W.heap.size + 1, 2, none⟩) (by show W.heap.size ≤ W.heap.size + 1; omega) (.int .i64 0)
    generalize (((X.setCell ⟨W.heap.size + 1, 0, none⟩ (.int .i64 0)).setCell ⟨W.heap.size + 1, 1, none⟩ (.int .i64 0)).setCell ⟨W.heap.size + 1, 2, none⟩ (.int .i64 0)) = FW at *
    have y0 := hbF.cell 0
    have y1 := hbF.cell 1
    have y2 := hbF.cell 2
    simp only [List.setIfInBounds_toArray, List.set_cons_zero, List.set_cons_succ, List.getElem?_toArray, List.getElem?_cons_succ, List.getElem?_cons_zero] at y0 y1 y2
    exact bodyPost_ret (v := .agg #[.int .i64 (0), .int .i64 (0), .int .i64 (0)]) (by simp [results, Tryz.results124, go_sem, y0, y1, y2]) rfl ⟨by rw [HP.out]; rfl, hbel⟩
  | false =>
    rw [hp] at c4
    by_cases hk : k = 5
    · subst hk
      subst hp
      by_cases h1 : m = 1
      · subst h1
        obtain ⟨x, rfl⟩ : ∃ x, l = [x] := by
          have hm := HL.out.2.1
          match l, hm with
          | [x], _ => exact ⟨x, rfl⟩
        obtain ⟨bb, off, rfl, hbb⟩ := HL.out.1.addr (by simp)
        obtain ⟨kx, nx, sx, tx, ax, cx, hx, d0, d1, d2, d3, htx⟩ := IsL.node' HL.out.1 hbb HH.out.below 0 (by simp)
        simp only [List.getElem_cons_zero, Nat.zero_mul, Nat.add_zero] at hx d0 d1 d2 d3 htx
        subst hx
        have hbW : bb < W.heap.size := Nat.lt_of_lt_of_le hbb HH.out.below.size
        rw [← H0.out.2.2.2.1.cell (p := ⟨bb, off, none⟩) hbW] at d0
        rw [← H0.out.2.2.2.1.cell (p := ⟨bb, off + 1, none⟩) hbW] at d1
        rw [← H0.out.2.2.2.1.cell (p := ⟨bb, off + 2, none⟩) hbW] at d2
        rw [← H0.out.2.2.2.1.cell (p := ⟨bb, off + 3, none⟩) hbW] at d3
        have hop := op_one (plain := false) (n := n) (s := s) (x := .node kx nx sx tx) rfl
        obtain ⟨⟨oa, ob, oc⟩, ho⟩ : ∃ o : Op3, preV s = o := ⟨_, rfl⟩
        obtain ⟨o1, o2, o3, ⟨m1, o4⟩, m2, o5⟩ := H0.out.2.2.1.ops
        have hlk := o5.look s hs1
        have hlk2 : ∀ W' : World, W'.heap[b2]? = X.heap[b2]? → (Instr.lookup 111 (.map (some b2)) (.string s) false).run Tryz.prog W' = .ok (.agg #[.int .i64 oa, .int .i64 ob, .int .i64 oc]) W' := fun W' hW => by
          have h := (o5.block (W' := W') hW).look s hs1
          rw [show (tabF opsP s.data.toList).getD (0, 0, 0) = preV s from rfl, ho] at h
          exact h
        have hlk3 := hlk2 X.drew rfl
        have hlk4 := hlk2 (X.alloc (.cells #[.int .i64 0, .int .i64 0, .int .i64 0] 48)).drew (Below.heap_alloc X _ _ o5.lt)
        rw [show (tabF opsP s.data.toList).getD (0, 0, 0) = preV s from rfl, ho] at hlk
        simp only [opV] at hlk
        have c2 := H0.out.2.2.1.box.cell 2
        simp only [List.getElem?_toArray, List.getElem?_cons_succ, List.getElem?_cons_zero] at c2
        have hlx : bb < X.heap.size := by have := H0.out.2.2.2.2; omega
        have HLK := Lib.hid hlk2
        clear o1 o2 o3 o4 o5 hlk2
        have hAY : Below X.heap.size X (X.alloc (.cells #[.int .i64 oa, .int .i64 ob, .int .i64 oc] 48)).drew := (below_a1 (Nat.le_refl _) _).drew
        have hO5 : Box (X.alloc (.cells #[.int .i64 oa, .int .i64 ob, .int .i64 oc] 48)).drew X.heap.size #[.int .i64 oa, .int .i64 ob, .int .i64 oc] 48 := Box.at (W := X) rfl
        have hWX : W.heap.size ≤ X.heap.size := H0.out.2.2.2.1.size
        have HY0 := Lib.hid (And.intro (H0.out.1.keep hAY) (And.intro (H0.out.2.1.keep hAY) (And.intro hO5 (And.intro (H0.out.2.2.1.up hAY) (And.intro (H0.out.2.2.2.1.trans (hAY.mono hWX)) (show (X.alloc (.cells #[.int .i64 oa, .int .i64 ob, .int .i64 oc] 48)).drew.heap.size = X.heap.size + 1 by simp))))))
        have HD := Lib.hid (And.intro (hAY.cell (p := ⟨bb, off, none⟩) hlx) (And.intro (hAY.cell (p := ⟨bb, off + 1, none⟩) hlx) (And.intro (hAY.cell (p := ⟨bb, off + 2, none⟩) hlx) (And.intro (hAY.cell (p := ⟨bb, off + 3, none⟩) hlx) (And.intro d0 (And.intro d1 (And.intro d2 d3)))))))
        have hXs := H0.out.2.2.2.2
        have HXS := Lib.hid hXs
        clear hAY hO5 d0 d1 d2 d3 hXs
        by_cases hs45 : s.data.toList = [45]
        · have hse : (s.toList == [45]) = true := by rw [bytes_toList]; simpa using hs45
          by_cases hkx : kx = 2
          · have HP : Hid (opF false (.node 5 n s [.node kx nx sx tx]) = (0, 0, 0)) := by rw [Hid, hop, if_pos ⟨hs45, .inl hkx⟩]
            subst hkx
            clear hs45 hop ho
            go_enter Tryz.func124, Tryz.ntmps124
            go_wp2_with fail
            go_region
            go_wp2_with fail
            all_goals
              generalize hY : (X.alloc (.cells #[.int .i64 oa, .int .i64 ob, .int .i64 oc] 48)).drew = Y at *
              obtain ⟨yT, yO, y5, yW, yB, yS⟩ := HY0.out
              have q0' := yT.cell 0
              have q2' := yT.cell 2
              have q3' := yT.cell 3
              have p0' := yO.cell 0
              have p1' := yO.cell 1
              have p2' := yO.cell 2
              have r0' := y5.cell 0
              have r1' := y5.cell 1
              have r2' := y5.cell 2
              obtain ⟨e0, e1, e2, e3, d0, d1, d2, d3⟩ := HD.out
              have g0 := e0.trans d0
              have g1 := e1.trans d1
              have g2 := e2.trans d2
              have g3 := e3.trans d3
              have hbY : bb < Y.heap.size := by omega
              have lY1 : W.heap.size < Y.heap.size := yT.lt
              have lY2 : X.heap.size < Y.heap.size := y5.lt
              simp only [List.getElem?_toArray, List.getElem?_cons_succ, List.getElem?_cons_zero] at q0' q2' q3' p0' p1' p2' r0' r1' r2'
              clear yS e0 e1 e2 e3 d0 d1 d2 d3 q0 q2 q3 p0 p1 p2 z0 z1 z2 c4 c2 hlk hlk3 hlk4 hlx
              refine wp_region_mono [.det (.pointer (some ⟨W.heap.size, 2, none⟩)), .det (.string s), .det (.bool true), .det (.bool true), .det (.pointer (some ⟨W.heap.size, 3, none⟩)), .det (.slice (some ⟨bb, off, none⟩) 1 c), .det (.pointer (some ⟨bb, off, none⟩)), .det (.pointer (some ⟨bb, off, none⟩)), .det (.int .i64 2), .det (.bool true), .det (.bool true), .det (undef), .det (undef), .det (undef), .det (undef), .det (undef), .det (undef), .det (undef), .det (undef), .det (undef), .det (undef), .det (.bool true), .det (.bool true)] (by kernel_rfl) (by kernel_rfl) ?_ ?_
              · intro y hy
                simp only [List.mem_cons, List.not_mem_nil, or_false] at hy
                rcases hy with rfl | rfl | rfl | rfl | rfl | rfl | rfl | rfl | rfl | rfl | rfl | rfl | rfl | rfl | rfl | rfl | rfl | rfl | rfl | rfl | rfl | rfl | rfl <;> first | trivial
              iterate 11 (
                rw [wpM]
                go_simp
                apply And.intro
                · intro w' hC _
                  have q1 := hC.old.1
                  have hbs := hC.old.2.2
                  clear hC
                  go_simp
                  exact Ext.refl _
                simp only [nextM])
              iterate 10 (
                rw [wpM]
                go_simp)
              iterate 2 (
                rw [wpM]
                go_simp
                apply And.intro
                · intro w' hC _
                  have q1 := hC.old.1
                  have hbs := hC.old.2.2
                  clear hC
                  go_simp
                  exact Ext.refl _
                simp only [nextM])
              refine wpM_nil ?_
              intro W1 hC1 _
              have hC2 : Below Y.heap.size Y W1 := hC1
              have xO := yO.keep hC2
              have x5 := y5.keep hC2
              have p0 := xO.cell 0
              have p1 := xO.cell 1
              have p2 := xO.cell 2
              have r0 := x5.cell 0
              have r1 := x5.cell 1
              have r2 := x5.cell 2
              have z0 := xO.frozen 0
              have z1 := xO.frozen 1
              have z2 := xO.frozen 2
              have lo := xO.lt
              have l5 := x5.lt
              have hB1 := yB.trans (hC2.mono yB.size)
              simp only [List.getElem?_toArray, List.getElem?_cons_succ, List.getElem?_cons_zero] at p0 p1 p2 r0 r1 r2
              have HZ := Lib.hid (And.intro xO hB1)
              clear xO x5 hB1 hC1 hC2 yT yO y5 yW yB q0' q2' q3' p0' p1' p2' r0' r1' r2' g0 g1 g2 g3 hY
              go_wp2_with fail
              have hbF := ((HZ.out.1.set 0 (.int .i64 0)).set 1 (.int .i64 0)).set 2 (.int .i64 0)
              have hbel := ((HZ.out.2.setCell (p := ⟨W.heap.size + 1, 0, none⟩) (by show W.heap.size ≤ W.heap.size + 1; omega) (.int .i64 0)).setCell (p := ⟨W.heap.size + 1, 1, none⟩) (by show W.heap.size ≤ W.heap.size + 1; omega) (.int .i64 0)).setCell (p := ⟨W.heap.size + 1, 2, none⟩) (by show W.heap.size ≤ W.heap.size + 1; omega) (.int .i64 0)
              generalize (((W1.setCell ⟨W.heap.size + 1, 0, none⟩ (.int .i64 0)).setCell ⟨W.heap.size + 1, 1, none⟩ (.int .i64 0)).setCell ⟨W.heap.size + 1, 2, none⟩ (.int .i64 0)) = FW at *
              have y0 := hbF.cell 0
              have y1 := hbF.cell 1
              have y2 := hbF.cell 2
              simp only [List.setIfInBounds_toArray, List.set_cons_zero, List.set_cons_succ, List.getElem?_toArray, List.getElem?_cons_succ, List.getElem?_cons_zero] at y0 y1 y2
              exact bodyPost_ret (v := .agg #[.int .i64 (0), .int .i64 (0), .int .i64 (0)]) (by simp [results, Tryz.results124, go_sem, y0, y1, y2]) rfl ⟨by rw [HP.out]; rfl, hbel⟩
          · obtain ⟨⟨xa, xb, xc⟩, hxo⟩ : ∃ o : Op3, opF false (.node kx nx sx tx) = o := ⟨_, rfl⟩
            have hk2 : (kx == 2) = false := by simpa using hkx
            have HC := Lib.hid (fun (W' : World) (hW' : Below (X.alloc (.cells #[.int .i64 oa, .int .i64 ob, .int .i64 oc] 48)).drew.heap.size (X.alloc (.cells #[.int .i64 oa, .int .i64 ob, .int .i64 oc] 48)).drew W') => HIH.out _ (List.mem_singleton.2 rfl) _ W' st ov (HY0.out.2.2.2.1.up hW') htx)
            rw [hxo] at HC
            by_cases hgt : xa > oc
            · have HP : Hid (opF false (.node 5 n s [.node kx nx sx tx]) = (0, 0, 0)) := by rw [Hid, hop, if_pos ⟨hs45, .inr (by rw [hxo, ho]; exact hgt)⟩]
              clear hs45 hop ho hkx hxo
              go_enter Tryz.func124, Tryz.ntmps124
              go_wp2_with fail
              go_region
              go_wp2_with fail
              all_goals
                generalize hY : (X.alloc (.cells #[.int .i64 oa, .int .i64 ob, .int .i64 oc] 48)).drew = Y at *
                obtain ⟨yT, yO, y5, yW, yB, yS⟩ := HY0.out
                have q0' := yT.cell 0
                have q2' := yT.cell 2
                have q3' := yT.cell 3
                have p0' := yO.cell 0
                have p1' := yO.cell 1
                have p2' := yO.cell 2
                have r0' := y5.cell 0
                have r1' := y5.cell 1
                have r2' := y5.cell 2
                obtain ⟨e0, e1, e2, e3, d0, d1, d2, d3⟩ := HD.out
                have g0 := e0.trans d0
                have g1 := e1.trans d1
                have g2 := e2.trans d2
                have g3 := e3.trans d3
                have hbY : bb < Y.heap.size := by omega
                have lY1 : W.heap.size < Y.heap.size := yT.lt
                have lY2 : X.heap.size < Y.heap.size := y5.lt
                simp only [List.getElem?_toArray, List.getElem?_cons_succ, List.getElem?_cons_zero] at q0' q2' q3' p0' p1' p2' r0' r1' r2'
                clear yS e0 e1 e2 e3 d0 d1 d2 d3 q0 q2 q3 p0 p1 p2 z0 z1 z2 c4 c2 hlk hlk3 hlk4 hlx
                have hfo := field_op0 xa xb xc
                refine wp_region_mono [.det (.pointer (some ⟨W.heap.size, 2, none⟩)), .det (.string s), .det (.bool true), .det (.bool true), .det (.pointer (some ⟨W.heap.size, 3, none⟩)), .det (.slice (some ⟨bb, off, none⟩) 1 c), .det (.pointer (some ⟨bb, off, none⟩)), .det (.pointer (some ⟨bb, off, none⟩)), .det (.int .i64 kx), .det (.bool false), .det (.bool false), .det (.pointer (some ⟨B, 0, none⟩)), .det (.pointer (some ⟨W.heap.size, 3, none⟩)), .det (.slice (some ⟨bb, off, none⟩) 1 c), .det (.pointer (some ⟨bb, off, none⟩)), .det (.agg #[.int .i64 kx, .int .i64 nx, .string sx, .slice ax tx.length cx]), .det (.agg #[.int .i64 xa, .int .i64 xb, .int .i64 xc]), .det (.int .i64 xa), .det (.pointer (some ⟨X.heap.size, 2, none⟩)), .det (.int .i64 oc), .det (.bool true), .det (.bool true), .det (.bool true)] (by kernel_rfl) (by kernel_rfl) ?_ ?_
                · intro y hy
                  simp only [List.mem_cons, List.not_mem_nil, or_false] at hy
                  rcases hy with rfl | rfl | rfl | rfl | rfl | rfl | rfl | rfl | rfl | rfl | rfl | rfl | rfl | rfl | rfl | rfl | rfl | rfl | rfl | rfl | rfl | rfl | rfl <;> first | trivial
                iterate 16 (
                  rw [wpM]
                  go_simp
                  apply And.intro
                  · intro w' hC _
                    have q1 := hC.old.1
                    have hbs := hC.old.2.2
                    clear hC
                    go_simp
                    exact Ext.refl _
                  simp only [nextM])
                rw [wpM]
                go_simp
                apply And.intro
                · intro w' hC _
                  go_simp
                  refine ⟨Ext.refl _, (HC.out w' hC).mono ?_⟩
                  rintro e w1 ⟨rfl, hB1⟩
                  exact ⟨rfl, hB1⟩
                simp only [nextM]
                iterate 6 (
                  rw [wpM]
                  go_simp
                  apply And.intro
                  · intro w' hC _
                    have q1 := hC.old.1
                    have hbs := hC.old.2.2
                    clear hC
                    go_simp
                    exact Ext.refl _
                  simp only [nextM])
                refine wpM_nil ?_
                intro W1 hC1 _
                have hC2 : Below Y.heap.size Y W1 := hC1
                have xO := yO.keep hC2
                have x5 := y5.keep hC2
                have p0 := xO.cell 0
                have p1 := xO.cell 1
                have p2 := xO.cell 2
                have r0 := x5.cell 0
                have r1 := x5.cell 1
                have r2 := x5.cell 2
                have z0 := xO.frozen 0
                have z1 := xO.frozen 1
                have z2 := xO.frozen 2
                have lo := xO.lt
                have l5 := x5.lt
                have hB1 := yB.trans (hC2.mono yB.size)
                simp only [List.getElem?_toArray, List.getElem?_cons_succ, List.getElem?_cons_zero] at p0 p1 p2 r0 r1 r2
                have HZ := Lib.hid (And.intro xO hB1)
                clear xO x5 hB1 hC1 hC2 yT yO y5 yW yB q0' q2' q3' p0' p1' p2' r0' r1' r2' g0 g1 g2 g3 hY
                go_wp2_with fail
                have hbF := ((HZ.out.1.set 0 (.int .i64 0)).set 1 (.int .i64 0)).set 2 (.int .i64 0)
                have hbel := ((HZ.out.2.setCell (p := ⟨W.heap.size + 1, 0, none⟩) (by show W.heap.size ≤ W.heap.size + 1; omega) (.int .i64 0)).setCell (p := ⟨W.heap.size + 1, 1, none⟩) (by show W.heap.size ≤ W.heap.size + 1; omega) (.int .i64 0)).setCell (p := ⟨W.heap.size + 1, 2, none⟩) (by show W.heap.size ≤ W.heap.size + 1; omega) (.int .i64 0)
                generalize (((W1.setCell ⟨W.heap.size + 1, 0, none⟩ (.int .i64 0)).setCell ⟨W.heap.size + 1, 1, none⟩ (.int .i64 0)).setCell ⟨W.heap.size + 1, 2, none⟩ (.int .i64 0)) = FW at *
                have y0 := hbF.cell 0
                have y1 := hbF.cell 1
                have y2 := hbF.cell 2
                simp only [List.setIfInBounds_toArray, List.set_cons_zero, List.set_cons_succ, List.getElem?_toArray, List.getElem?_cons_succ, List.getElem?_cons_zero] at y0 y1 y2
                exact bodyPost_ret (v := .agg #[.int .i64 (0), .int .i64 (0), .int .i64 (0)]) (by simp [results, Tryz.results124, go_sem, y0, y1, y2]) rfl ⟨by rw [HP.out]; rfl, hbel⟩
            · have HP : Hid (opF false (.node 5 n s [.node kx nx sx tx]) = (oa, ob, oc)) := by rw [Hid, hop, if_neg (by rintro ⟨_, h | h⟩; exact hkx h; rw [hxo, ho] at h; exact hgt h), ho]
              clear hs45 hop ho hkx hxo
              go_enter Tryz.func124, Tryz.ntmps124
              go_wp2_with fail
              go_region
              go_wp2_with fail
              all_goals
                generalize hY : (X.alloc (.cells #[.int .i64 oa, .int .i64 ob, .int .i64 oc] 48)).drew = Y at *
                obtain ⟨yT, yO, y5, yW, yB, yS⟩ := HY0.out
                have q0' := yT.cell 0
                have q2' := yT.cell 2
                have q3' := yT.cell 3
                have p0' := yO.cell 0
                have p1' := yO.cell 1
                have p2' := yO.cell 2
                have r0' := y5.cell 0
                have r1' := y5.cell 1
                have r2' := y5.cell 2
                obtain ⟨e0, e1, e2, e3, d0, d1, d2, d3⟩ := HD.out
                have g0 := e0.trans d0
                have g1 := e1.trans d1
                have g2 := e2.trans d2
                have g3 := e3.trans d3
                have hbY : bb < Y.heap.size := by omega
                have lY1 : W.heap.size < Y.heap.size := yT.lt
                have lY2 : X.heap.size < Y.heap.size := y5.lt
                simp only [List.getElem?_toArray, List.getElem?_cons_succ, List.getElem?_cons_zero] at q0' q2' q3' p0' p1' p2' r0' r1' r2'
                clear yS e0 e1 e2 e3 d0 d1 d2 d3 q0 q2 q3 p0 p1 p2 z0 z1 z2 c4 c2 hlk hlk3 hlk4 hlx
                have hfo := field_op0 xa xb xc
                refine wp_region_mono [.det (.pointer (some ⟨W.heap.size, 2, none⟩)), .det (.string s), .det (.bool true), .det (.bool true), .det (.pointer (some ⟨W.heap.size, 3, none⟩)), .det (.slice (some ⟨bb, off, none⟩) 1 c), .det (.pointer (some ⟨bb, off, none⟩)), .det (.pointer (some ⟨bb, off, none⟩)), .det (.int .i64 kx), .det (.bool false), .det (.bool false), .det (.pointer (some ⟨B, 0, none⟩)), .det (.pointer (some ⟨W.heap.size, 3, none⟩)), .det (.slice (some ⟨bb, off, none⟩) 1 c), .det (.pointer (some ⟨bb, off, none⟩)), .det (.agg #[.int .i64 kx, .int .i64 nx, .string sx, .slice ax tx.length cx]), .det (.agg #[.int .i64 xa, .int .i64 xb, .int .i64 xc]), .det (.int .i64 xa), .det (.pointer (some ⟨X.heap.size, 2, none⟩)), .det (.int .i64 oc), .det (.bool false), .det (.bool false), .det (.bool false)] (by kernel_rfl) (by kernel_rfl) ?_ ?_
                · intro y hy
                  simp only [List.mem_cons, List.not_mem_nil, or_false] at hy
                  rcases hy with rfl | rfl | rfl | rfl | rfl | rfl | rfl | rfl | rfl | rfl | rfl | rfl | rfl | rfl | rfl | rfl | rfl | rfl | rfl | rfl | rfl | rfl | rfl <;> first | trivial
                iterate 16 (
                  rw [wpM]
                  go_simp
                  apply And.intro
                  · intro w' hC _
                    have q1 := hC.old.1
                    have hbs := hC.old.2.2
                    clear hC
                    go_simp
                    exact Ext.refl _
                  simp only [nextM])
                rw [wpM]
                go_simp
                apply And.intro
                · intro w' hC _
                  go_simp
                  refine ⟨Ext.refl _, (HC.out w' hC).mono ?_⟩
                  rintro e w1 ⟨rfl, hB1⟩
                  exact ⟨rfl, hB1⟩
                simp only [nextM]
                iterate 6 (
                  rw [wpM]
                  go_simp
                  apply And.intro
                  · intro w' hC _
                    have q1 := hC.old.1
                    have hbs := hC.old.2.2
                    clear hC
                    go_simp
                    exact Ext.refl _
                  simp only [nextM])
                refine wpM_nil ?_
                intro W1 hC1 _
                have hC2 : Below Y.heap.size Y W1 := hC1
                have xO := yO.keep hC2
                have x5 := y5.keep hC2
                have p0 := xO.cell 0
                have p1 := xO.cell 1
                have p2 := xO.cell 2
                have r0 := x5.cell 0
                have r1 := x5.cell 1
                have r2 := x5.cell 2
                have z0 := xO.frozen 0
                have z1 := xO.frozen 1
                have z2 := xO.frozen 2
                have lo := xO.lt
                have l5 := x5.lt
                have hB1 := yB.trans (hC2.mono yB.size)
                simp only [List.getElem?_toArray, List.getElem?_cons_succ, List.getElem?_cons_zero] at p0 p1 p2 r0 r1 r2
                have HZ := Lib.hid (And.intro xO hB1)
                clear xO x5 hB1 hC1 hC2 yT yO y5 yW yB q0' q2' q3' p0' p1' p2' r0' r1' r2' g0 g1 g2 g3 hY
                go_wp2_with fail
                have hbF := ((HZ.out.1.set 0 (.int .i64 oa)).set 1 (.int .i64 ob)).set 2 (.int .i64 oc)
                have hbel := ((HZ.out.2.setCell (p := ⟨W.heap.size + 1, 0, none⟩) (by show W.heap.size ≤ W.heap.size + 1; omega) (.int .i64 oa)).setCell (p := ⟨W.heap.size + 1, 1, none⟩) (by show W.heap.size ≤ W.heap.size + 1; omega) (.int .i64 ob)).setCell (p := ⟨W.heap.size + 1, 2, none⟩) (by show W.heap.size ≤ W.heap.size + 1; omega) (.int .i64 oc)
                generalize (((W1.setCell ⟨W.heap.size + 1, 0, none⟩ (.int .i64 oa)).setCell ⟨W.heap.size + 1, 1, none⟩ (.int .i64 ob)).setCell ⟨W.heap.size + 1, 2, none⟩ (.int .i64 oc)) = FW at *
                have y0 := hbF.cell 0
                have y1 := hbF.cell 1
                have y2 := hbF.cell 2
                simp only [List.setIfInBounds_toArray, List.set_cons_zero, List.set_cons_succ, List.getElem?_toArray, List.getElem?_cons_succ, List.getElem?_cons_zero] at y0 y1 y2
                exact bodyPost_ret (v := .agg #[.int .i64 (oa), .int .i64 (ob), .int .i64 (oc)]) (by simp [results, Tryz.results124, go_sem, y0, y1, y2]) rfl ⟨by rw [HP.out]; rfl, hbel⟩
        · have HP : Hid (opF false (.node 5 n s [.node kx nx sx tx]) = (oa, ob, oc)) := by rw [Hid, hop, if_neg (fun h => hs45 h.1), ho]
          have hse : (s.toList == [45]) = false := by rw [bytes_toList]; simpa using hs45
          clear hs45 hop ho
          go_enter Tryz.func124, Tryz.ntmps124
          go_wp2_with fail
          go_region
          go_wp2_with fail
          all_goals
            generalize hY : (X.alloc (.cells #[.int .i64 oa, .int .i64 ob, .int .i64 oc] 48)).drew = Y at *
            obtain ⟨yT, yO, y5, yW, yB, yS⟩ := HY0.out
            have q0' := yT.cell 0
            have q2' := yT.cell 2
            have q3' := yT.cell 3
            have p0' := yO.cell 0
            have p1' := yO.cell 1
            have p2' := yO.cell 2
            have r0' := y5.cell 0
            have r1' := y5.cell 1
            have r2' := y5.cell 2
            obtain ⟨e0, e1, e2, e3, d0, d1, d2, d3⟩ := HD.out
            have g0 := e0.trans d0
            have g1 := e1.trans d1
            have g2 := e2.trans d2
            have g3 := e3.trans d3
            have hbY : bb < Y.heap.size := by omega
            have lY1 : W.heap.size < Y.heap.size := yT.lt
            have lY2 : X.heap.size < Y.heap.size := y5.lt
            simp only [List.getElem?_toArray, List.getElem?_cons_succ, List.getElem?_cons_zero] at q0' q2' q3' p0' p1' p2' r0' r1' r2'
            clear yS e0 e1 e2 e3 d0 d1 d2 d3 q0 q2 q3 p0 p1 p2 z0 z1 z2 c4 c2 hlk hlk3 hlk4 hlx
            refine wp_region_mono [.det (.pointer (some ⟨W.heap.size, 2, none⟩)), .det (.string s), .det (.bool false), .det (.bool false), .det (undef), .det (undef), .det (undef), .det (undef), .det (undef), .det (undef), .det (undef), .det (undef), .det (undef), .det (undef), .det (undef), .det (undef), .det (undef), .det (undef), .det (undef), .det (undef), .det (undef), .det (undef), .det (.bool false)] (by kernel_rfl) (by kernel_rfl) ?_ ?_
            · intro y hy
              simp only [List.mem_cons, List.not_mem_nil, or_false] at hy
              rcases hy with rfl | rfl | rfl | rfl | rfl | rfl | rfl | rfl | rfl | rfl | rfl | rfl | rfl | rfl | rfl | rfl | rfl | rfl | rfl | rfl | rfl | rfl | rfl <;> first | trivial
            iterate 4 (
              rw [wpM]
              go_simp
              apply And.intro
              · intro w' hC _
                have q1 := hC.old.1
                have hbs := hC.old.2.2
                clear hC
                go_simp
                exact Ext.refl _
              simp only [nextM])
            iterate 18 (
              rw [wpM]
              go_simp)
            iterate 1 (
              rw [wpM]
              go_simp
              apply And.intro
              · intro w' hC _
                have q1 := hC.old.1
                have hbs := hC.old.2.2
                clear hC
                go_simp
                exact Ext.refl _
              simp only [nextM])
            refine wpM_nil ?_
            intro W1 hC1 _
            have hC2 : Below Y.heap.size Y W1 := hC1
            have xO := yO.keep hC2
            have x5 := y5.keep hC2
            have p0 := xO.cell 0
            have p1 := xO.cell 1
            have p2 := xO.cell 2
            have r0 := x5.cell 0
            have r1 := x5.cell 1
            have r2 := x5.cell 2
            have z0 := xO.frozen 0
            have z1 := xO.frozen 1
            have z2 := xO.frozen 2
            have lo := xO.lt
            have l5 := x5.lt
            have hB1 := yB.trans (hC2.mono yB.size)
            simp only [List.getElem?_toArray, List.getElem?_cons_succ, List.getElem?_cons_zero] at p0 p1 p2 r0 r1 r2
            have HZ := Lib.hid (And.intro xO hB1)
            clear xO x5 hB1 hC1 hC2 yT yO y5 yW yB q0' q2' q3' p0' p1' p2' r0' r1' r2' g0 g1 g2 g3 hY
            go_wp2_with fail
            have hbF := ((HZ.out.1.set 0 (.int .i64 oa)).set 1 (.int .i64 ob)).set 2 (.int .i64 oc)
            have hbel := ((HZ.out.2.setCell (p := ⟨W.heap.size + 1, 0, none⟩) (by show W.heap.size ≤ W.heap.size + 1; omega) (.int .i64 oa)).setCell (p := ⟨W.heap.size + 1, 1, none⟩) (by show W.heap.size ≤ W.heap.size + 1; omega) (.int .i64 ob)).setCell (p := ⟨W.heap.size + 1, 2, none⟩) (by show W.heap.size ≤ W.heap.size + 1; omega) (.int .i64 oc)
            generalize (((W1.setCell ⟨W.heap.size + 1, 0, none⟩ (.int .i64 oa)).setCell ⟨W.heap.size + 1, 1, none⟩ (.int .i64 ob)).setCell ⟨W.heap.size + 1, 2, none⟩ (.int .i64 oc)) = FW at *
            have y0 := hbF.cell 0
            have y1 := hbF.cell 1
            have y2 := hbF.cell 2
            simp only [List.setIfInBounds_toArray, List.set_cons_zero, List.set_cons_succ, List.getElem?_toArray, List.getElem?_cons_succ, List.getElem?_cons_zero] at y0 y1 y2
            exact bodyPost_ret (v := .agg #[.int .i64 (oa), .int .i64 (ob), .int .i64 (oc)]) (by simp [results, Tryz.results124, go_sem, y0, y1, y2]) rfl ⟨by rw [HP.out]; rfl, hbel⟩
      · by_cases h2 : m = 2
        · subst h2
          obtain ⟨x, y, rfl⟩ : ∃ x y, l = [x, y] := by
            have hm := HL.out.2.1
            match l, hm with
            | [x, y], _ => exact ⟨x, y, rfl⟩
          have hop := op_two (plain := false) (n := n) (s := s) (x := x) (y := y) rfl
          obtain ⟨⟨oa, ob, oc⟩, ho⟩ : ∃ o : Op3, infV s = o := ⟨_, rfl⟩
          have HP : Hid (opF false (.node 5 n s [x, y]) = (oa, ob, oc)) := by rw [Hid, hop, ho]
          obtain ⟨o1, o2, o3, ⟨m1, o4⟩, m2, o5⟩ := H0.out.2.2.1.ops
          have hlk := o4.look s hs1
          have hlk2 : (Instr.lookup 111 (.map (some b1)) (.string s) false).run Tryz.prog X.drew = _ := (o4.block (W' := X.drew) rfl).look s hs1
          rw [show (tabF opsI s.data.toList).getD (0, 0, 0) = infV s from rfl, ho] at hlk hlk2
          simp only [opV] at hlk hlk2
          have c1 := H0.out.2.2.1.box.cell 1
          simp only [List.getElem?_toArray, List.getElem?_cons_succ, List.getElem?_cons_zero] at c1
          clear o1 o2 o3 o4 o5 hop ho h1
          go_enter Tryz.func124, Tryz.ntmps124
          go_wp2_with fail
          go_region
          go_wp2_with fail
          have hbF : Box (((X.setCell ⟨W.heap.size + 1, 0, none⟩ (.int .i64 oa)).setCell ⟨W.heap.size + 1, 1, none⟩ (.int .i64 ob)).setCell ⟨W.heap.size + 1, 2, none⟩ (.int .i64 oc)).drew (W.heap.size + 1) _ _ := ((H0.out.2.1.set 0 (.int .i64 oa)).set 1 (.int .i64 ob)).set 2 (.int .i64 oc)
          have hbel := (((H0.out.2.2.2.1.setCell (p := ⟨W.heap.size + 1, 0, none⟩) (by show W.heap.size ≤ W.heap.size + 1; omega) (.int .i64 oa)).setCell (p := ⟨W.heap.size + 1, 1, none⟩) (by show W.heap.size ≤ W.heap.size + 1; omega) (.int .i64 ob)).setCell (p := ⟨W.heap.size + 1, 2, none⟩) (by show W.heap.size ≤ W.heap.size + 1; omega) (.int .i64 oc)).drew
          generalize (((X.setCell ⟨W.heap.size + 1, 0, none⟩ (.int .i64 oa)).setCell ⟨W.heap.size + 1, 1, none⟩ (.int .i64 ob)).setCell ⟨W.heap.size + 1, 2, none⟩ (.int .i64 oc)).drew = FW at *
          have y0 := hbF.cell 0
          have y1 := hbF.cell 1
          have y2 := hbF.cell 2
          simp only [List.setIfInBounds_toArray, List.set_cons_zero, List.set_cons_succ, List.getElem?_toArray, List.getElem?_cons_succ, List.getElem?_cons_zero] at y0 y1 y2
          exact bodyPost_ret (v := .agg #[.int .i64 (oa), .int .i64 (ob), .int .i64 (oc)]) (by simp [results, Tryz.results124, go_sem, y0, y1, y2]) rfl ⟨by rw [HP.out]; rfl, hbel⟩
        · have HP : Hid (opF false (.node 5 n s l) = (0, 0, 0)) := op_many (by rw [HL.out.2.1]; exact h1) (by rw [HL.out.2.1]; exact h2)
          have e1 : ((m : Int) == 1) = false := by simp only [beq_eq_false_iff_ne]; omega
          have e2 : ((m : Int) == 2) = false := by simp only [beq_eq_false_iff_ne]; omega
          clear h1 h2
          go_enter Tryz.func124, Tryz.ntmps124
          go_wp2_with fail
          have hbF := ((H0.out.2.1.set 0 (.int .i64 0)).set 1 (.int .i64 0)).set 2 (.int .i64 0)
          have hbel := ((H0.out.2.2.2.1.setCell (p := ⟨W.heap.size + 1, 0, none⟩) (by show W.heap.size ≤ W.heap.size + 1; omega) (.int .i64 0)).setCell (p := ⟨W.heap.size + 1, 1, none⟩) (by show W.heap.size ≤ W.heap.size + 1; omega) (.int .i64 0)).setCell (p := ⟨W.heap.size + 1, 2, none⟩) (by show W.heap.size ≤ W.heap.size + 1; omega) (.int .i64 0)
          generalize (((X.setCell ⟨W.heap.size + 1, 0, none⟩ (.int .i64 0)).setCell ⟨W.heap.size + 1, 1, none⟩ (.int .i64 0)).setCell ⟨W.heap.size + 1, 2, none⟩ (.int .i64 0)) = FW at *
          have y0 := hbF.cell 0
          have y1 := hbF.cell 1
          have y2 := hbF.cell 2
          simp only [List.setIfInBounds_toArray, List.set_cons_zero, List.set_cons_succ, List.getElem?_toArray, List.getElem?_cons_succ, List.getElem?_cons_zero] at y0 y1 y2
          exact bodyPost_ret (v := .agg #[.int .i64 (0), .int .i64 (0), .int .i64 (0)]) (by simp [results, Tryz.results124, go_sem, y0, y1, y2]) rfl ⟨by rw [HP.out]; rfl, hbel⟩
    · have HP : Hid (opF false (.node k n s l) = (0, 0, 0)) := op_zero (.inr hk)
      have hk5 : (k != 5) = true := by simpa using hk
      clear hk
      subst hp
      go_enter Tryz.func124, Tryz.ntmps124
      go_wp2_with fail
      have hbF := ((H0.out.2.1.set 0 (.int .i64 0)).set 1 (.int .i64 0)).set 2 (.int .i64 0)
      have hbel := ((H0.out.2.2.2.1.setCell (p := ⟨W.heap.size + 1, 0, none⟩) (by show W.heap.size ≤ W.heap.size + 1; omega) (.int .i64 0)).setCell (p := ⟨W.heap.size + 1, 1, none⟩) (by show W.heap.size ≤ W.heap.size + 1; omega) (.int .i64 0)).setCell (p := ⟨W.heap.size + 1, 2, none⟩) (by show W.heap.size ≤ W.heap.size + 1; omega) (.int .i64 0)
      generalize (((X.setCell ⟨W.heap.size + 1, 0, none⟩ (.int .i64 0)).setCell ⟨W.heap.size + 1, 1, none⟩ (.int .i64 0)).setCell ⟨W.heap.size + 1, 2, none⟩ (.int .i64 0)) = FW at *
      have y0 := hbF.cell 0
      have y1 := hbF.cell 1
      have y2 := hbF.cell 2
      simp only [List.setIfInBounds_toArray, List.set_cons_zero, List.set_cons_succ, List.getElem?_toArray, List.getElem?_cons_succ, List.getElem?_cons_zero] at y0 y1 y2
      exact bodyPost_ret (v := .agg #[.int .i64 (0), .int .i64 (0), .int .i64 (0)]) (by simp [results, Tryz.results124, go_sem, y0, y1, y2]) rfl ⟨by rw [HP.out]; rfl, hbel⟩
end
end Go.Proofs.YthfciekhmbfmfaaGreatDoor
