/- The least general term of two: the second reading of general, walked. -/
import Derived.Test.YtlaeaoecmnaneaaDoorGenS
namespace Go.Proofs.YtlaeaoecmnaneaaDoor
open Go.RowKit Go

attribute [local go_sem] Oper.semAt_some uponP Yld.says monoUpon

set_option maxRecDepth 100000 in
set_option maxHeartbeats 16000000 in
theorem refGeneralV_any (n₀ P : Nat) (k n : Int) (s : ByteArray) (l : List Tr) (k' n' : Int) (s' : ByteArray) (l' : List Tr) (vx vu va vb : Value) (la lb : List Tr) (w : World) (hx : IsT n₀ w (.node k n s l) vx) (hu : IsT n₀ w (.node k' n' s' l') vu) (hp : Prs n₀ P w va vb la lb) (hlab : la.length = lb.length) (hn : n₀ ≤ w.heap.size) (hsz : la.length ≤ 1000000) (hv : k = 1 ∨ topT (.node k n s l) (.node k' n' s' l') = false) :
    Calls Tryd.prog 110 #[vx, vu, .pointer (some ⟨P, 0, none⟩)] w (GgPost n₀ P (.node k n s l) (.node k' n' s' l') va vb la lb w) := by
  have HT := Lib.hid (And.intro hx hu)
  obtain ⟨a, c, rfl, h1, h2, h3, hlc, hcm, hl⟩ := hx.open
  obtain ⟨a', c', rfl, h1', h2', h3', hlc', hcm', hl'⟩ := hu.open
  have hlm : l.length ≤ 9223372036854775807 := by unfold maxLen at hcm; omega
  have hlm' : l'.length ≤ 9223372036854775807 := by unfold maxLen at hcm'; omega
  clear hx hu h1 h2 h3 h1' h2' h3' hl hl'
  obtain ⟨ga, gc, rfl⟩ := hp.ra.form
  obtain ⟨gb, gcb, rfl⟩ := hp.rb.form
  have HS0 := Lib.hid (GsAt.start #[.int .i64 k, .int .i64 n, .string s, .slice a l.length c] #[.int .i64 k', .int .i64 n', .string s', .slice a' l'.length c'] hp hn)
  have HP := Lib.hid hp
  clear hp
  obtain ⟨ks, hks⟩ : ∃ ks, List.zipWith key2 la lb = ks := ⟨_, rfl⟩
  have hksl : Hid (ks.length = la.length) := by rw [Hid, ← hks]; simp; omega
  have HKS := Lib.hid hks
  clear hks
  have HLAB := Lib.hid hlab
  clear hlab
  refine (callsIn_wide (n := 9)).1 ?_
  generalize hF : Fence.wide = F
  have hd : F.depth = none := by subst hF; rfl
  have hf : ∀ f, F.fn f := fun f => by subst hF; trivial
  have hro : F.round = none := by subst hF; rfl
  have HGEN : Hid (genT (.node k n s l) (.node k' n' s' l') ks = (.node 1 (numK ks (key2 (.node k n s l) (.node k' n' s' l'))) emp [], addK ks (key2 (.node k n s l) (.node k' n' s' l')))) := by rw [Hid, genT, if_pos hv]; rfl
  have hc : ((k != 1) = false) ∨ ((k != 1) = true ∧ (k == k') = false) ∨ ((k != 1) = true ∧ (k == k') = true ∧ (n == n') = false) ∨ ((k != 1) = true ∧ (k == k') = true ∧ (n == n') = true ∧ (s.toList == s'.toList) = false) ∨ ((k != 1) = true ∧ (k == k') = true ∧ (n == n') = true ∧ (s.toList == s'.toList) = true ∧ (((l.length : Nat) : Int) == (l'.length : Nat)) = false) := by
    by_cases e1 : k = 1
    · exact .inl (by simp [e1])
    have f1 : (k != 1) = true := by simpa using e1
    by_cases e2 : k = k'
    rotate_left
    · exact .inr (.inl ⟨f1, by simpa using e2⟩)
    have f2 : (k == k') = true := by simpa using e2
    by_cases e3 : n = n'
    rotate_left
    · exact .inr (.inr (.inl ⟨f1, f2, by simpa using e3⟩))
    have f3 : (n == n') = true := by simpa using e3
    by_cases e4 : s = s'
    rotate_left
    · exact .inr (.inr (.inr (.inl ⟨f1, f2, f3, bytes_ne e4⟩)))
    have f4 : (s.toList == s'.toList) = true := by rw [e4]; simp
    refine .inr (.inr (.inr (.inr ⟨f1, f2, f3, f4, ?_⟩)))
    rcases hv with h | h
    · exact absurd h e1
    · have e5 : l.length ≠ l'.length := fun e => by simp [topT, topB, e2, e3, e4, e] at h
      simp only [beq_eq_false_iff_ne, ne_eq]
      intro e
      exact e5 (by omega)
  clear hv
  rcases hc with f1 | ⟨f1, f2⟩ | ⟨f1, f2, f3⟩ | ⟨f1, f2, f3, f4⟩ | ⟨f1, f2, f3, f4, f5⟩
  all_goals
    refine callsIn_of_wp Tryd.func110 rfl (hf _) ?_ hro
    simp only [Tryd.ntmps110, List.size_toArray, List.length_cons, List.length_nil, Nat.reduceAdd, Nat.reduceSub, Array.replicate_succ, Array.replicate_zero, List.push_toArray, List.append_toArray, List.nil_append, List.cons_append]
    gi_wp2_with fail
    gi_loopw [9] (fun i wr => ∃ j : Nat, j ≤ la.length ∧ i = .int .i64 j ∧ GsAt n₀ P w (.slice ga la.length gc) (.slice gb lb.length gcb) #[.int .i64 k, .int .i64 n, .string s, .slice a l.length c] #[.int .i64 k', .int .i64 n', .string s', .slice a' l'.length c'] (.slice ga la.length gc) (.slice gb lb.length gcb) la lb wr ∧ (key2 (.node k n s l) (.node k' n' s' l')) ∉ ks.take j) (fun i _ => la.length - (intOf i).toNat)
    case atStart => exact ⟨0, Nat.zero_le _, rfl, HS0.out, by simp⟩
    case round =>
      clear HS0
      obtain ⟨j, hj, rfl, hS, hno⟩ := hrel
      have p0 := hS.prs.box.cell 0
      have lP := hS.prs.box.lt
      have l0 := hS.b0.lt
      have l1 := hS.b1.lt
      simp only [List.getElem?_toArray, List.getElem?_cons_zero] at p0
      have HA := Lib.hid hS
      have HNO := Lib.hid hno
      clear hS hno
      by_cases hlt : j < la.length
      · have hlt' : j < lb.length := by have := HLAB.out; omega
        obtain ⟨g, rfl⟩ := HA.out.prs.ra.addr2 (by omega)
        obtain ⟨g', rfl⟩ := HA.out.prs.rb.addr2 (by omega)
        obtain ⟨fk, fn, fs, fl, fa, fc, fe, c0, c1, c2, c3, hft, hflm⟩ := HA.out.prs.ra.at rfl hlt
        obtain ⟨hk, hn2, hs2, hl, ha, hc, he, d0, d1, d2, d3, hht, hhlm⟩ := HA.out.prs.rb.at rfl hlt'
        have lg := (HA.out.prs.ra.lt g rfl).2
        have lg' := (HA.out.prs.rb.lt g' rfl).2
        have p1 := HA.out.prs.box.cell 1
        simp only [List.getElem?_toArray, List.getElem?_cons_succ, List.getElem?_cons_zero] at p1
        have a0 := HA.out.b0.cell 0
        have a1 := HA.out.b0.cell 1
        have a2 := HA.out.b0.cell 2
        have a3 := HA.out.b0.cell 3
        have e0 := HA.out.b1.cell 0
        have e1 := HA.out.b1.cell 1
        have e2 := HA.out.b1.cell 2
        have e3 := HA.out.b1.cell 3
        simp only [List.getElem?_toArray, List.getElem?_cons_succ, List.getElem?_cons_zero] at a0 a1 a2 a3 e0 e1 e2 e3
        have hnw : n₀ ≤ wr.heap.size := Nat.le_trans hn HA.out.k3.size
        obtain ⟨r1, hr1⟩ : ∃ b, eqT la[j] (.node k n s l) = b := ⟨_, rfl⟩
        obtain ⟨r2, hr2⟩ : ∃ b, eqT lb[j] (.node k' n' s' l') = b := ⟨_, rfl⟩
        have hc1 : ∀ w', Ext wr w' → Calls Tryd.prog 25 #[.agg #[.int .i64 fk, .int .i64 fn, .string fs, .slice fa fl.length fc], .agg #[.int .i64 k, .int .i64 n, .string s, .slice a l.length c]] w' fun e w2 => e = .returned (.bool r1) ∧ Ext w' w2 := fun w' hC => by have := refSame_any la[j] (.node k n s l) _ _ w' ((hft.mono hnw).up hC hC.size) (((HT.out.1.below HA.out.below).mono hnw).up hC hC.size); rw [hr1] at this; exact this
        have hc2 : ∀ w', Ext wr w' → Calls Tryd.prog 25 #[.agg #[.int .i64 hk, .int .i64 hn2, .string hs2, .slice ha hl.length hc], .agg #[.int .i64 k', .int .i64 n', .string s', .slice a' l'.length c']] w' fun e w2 => e = .returned (.bool r2) ∧ Ext w' w2 := fun w' hC => by have := refSame_any lb[j] (.node k' n' s' l') _ _ w' ((hht.mono hnw).up hC hC.size) (((HT.out.2.below HA.out.below).mono hnw).up hC hC.size); rw [hr2] at this; exact this
        have HC1 := Lib.hid hc1
        have HC2 := Lib.hid hc2
        have HEQ : Hid ((r1 = true ↔ la[j] = (.node k n s l)) ∧ (r2 = true ↔ lb[j] = (.node k' n' s' l'))) := ⟨by rw [← hr1]; simp [eqT], by rw [← hr2]; simp [eqT]⟩
        clear hc1 hc2 hr1 hr2 hft hht fe he
        gi_wp2_with fail
        cases r1 with
        | false =>
          refine wpIn_region_mono_tail 19 [.det (.pointer (some ⟨P, 0, none⟩)), .det (.pointer (some ⟨P, 0, none⟩)), .det (.pointer (some ⟨P, 0, none⟩)), .det (.slice (some ⟨g, 0, none⟩) la.length gc), .det (.int .i64 j), .det (.pointer (some ⟨g, j * 4, none⟩)), .det (.agg #[.int .i64 fk, .int .i64 fn, .string fs, .slice fa fl.length fc]), .det (.agg #[.int .i64 k, .int .i64 n, .string s, .slice a l.length c]), .det (.bool false), .det (.bool false), .det (.pointer (some ⟨P, 0, none⟩)), .det (.pointer (some ⟨P, 0, none⟩)), .det (.pointer (some ⟨P, 1, none⟩)), .det (.slice (some ⟨g', 0, none⟩) lb.length gcb), .det (.int .i64 j), .det (.pointer (some ⟨g', j * 4, none⟩)), .det (.agg #[.int .i64 hk, .int .i64 hn2, .string hs2, .slice ha hl.length hc]), .det (.agg #[.int .i64 k', .int .i64 n', .string s', .slice a' l'.length c']), .det (.bool r2)] hf hd (fun k f args w R h => callsIn_of_calls hF h) (by kernel_rfl) (by kernel_rfl) ?_ ?_
          · intro y hy
            simp only [List.mem_cons, List.not_mem_nil, or_false] at hy
            rcases hy with rfl | rfl | rfl | rfl | rfl | rfl | rfl | rfl | rfl | rfl | rfl | rfl | rfl | rfl | rfl | rfl | rfl | rfl | rfl <;> first | trivial
          simp only [List.take_succ_cons, List.take_zero, List.drop_succ_cons, List.drop_zero]
          iterate 8 (
            refine wpM_step (fun K hK => ?_)
            go_simp
            apply And.intro
            · intro w' hC _
              have q1 := hC.old.1
              have hbs := hC.old.2.2
              clear hC
              go_simp
              exact Ext.refl _
            refine nextM_det (hK _ _ ?_)
            clear hK K)
          refine wpM_step (fun K hK => ?_)
          go_simp
          apply And.intro
          · intro w' hC _
            go_simp
            refine ⟨Ext.refl _, (HC1.out w' hC).mono ?_⟩
            rintro e w1 ⟨rfl, hB1⟩
            exact ⟨rfl, hB1⟩
          refine nextM_det (hK _ _ ?_)
          clear hK K
          iterate 1 (
            rw [wpM]
            go_simp
            apply And.intro
            · intro w' hC _
              have q1 := hC.old.1
              have hbs := hC.old.2.2
              clear hC
              go_simp
              exact Ext.refl _
            simp only [nextM])
          iterate 9 (
            rw [wpM]
            go_simp)
          refine wpM_nil ?_
          intro W1 hC1 _
          clear p0 p1 a0 a1 a2 a3 e0 e1 e2 e3 c0 c1 c2 c3 d0 d1 d2 d3
          have HN2 : Hid ((key2 (.node k n s l) (.node k' n' s' l')) ∉ ks.take (j + 1)) := by
            rw [Hid, ← HKS.out, zip_take hlt hlt', List.mem_append, List.mem_singleton, HKS.out]
            rintro (h | h)
            · exact HNO.out h
            · obtain ⟨e1, e2⟩ := key2_inj h
              exact absurd (HEQ.out.1.2 e1.symm) (by decide)
          have HA2 := Lib.hid (HA.out.keep hC1)
          clear hC1
          gi_wp2_with fail
          go_roundw
          case rel => exact ⟨j + 1, hlt, by go_num, HA2.out, HN2.out⟩
          case measure => simp [intOf]; omega
        | true =>
          refine wpIn_region_mono_tail 19 [.det (.pointer (some ⟨P, 0, none⟩)), .det (.pointer (some ⟨P, 0, none⟩)), .det (.pointer (some ⟨P, 0, none⟩)), .det (.slice (some ⟨g, 0, none⟩) la.length gc), .det (.int .i64 j), .det (.pointer (some ⟨g, j * 4, none⟩)), .det (.agg #[.int .i64 fk, .int .i64 fn, .string fs, .slice fa fl.length fc]), .det (.agg #[.int .i64 k, .int .i64 n, .string s, .slice a l.length c]), .det (.bool true), .det (.bool true), .det (.pointer (some ⟨P, 0, none⟩)), .det (.pointer (some ⟨P, 0, none⟩)), .det (.pointer (some ⟨P, 1, none⟩)), .det (.slice (some ⟨g', 0, none⟩) lb.length gcb), .det (.int .i64 j), .det (.pointer (some ⟨g', j * 4, none⟩)), .det (.agg #[.int .i64 hk, .int .i64 hn2, .string hs2, .slice ha hl.length hc]), .det (.agg #[.int .i64 k', .int .i64 n', .string s', .slice a' l'.length c']), .det (.bool r2)] hf hd (fun k f args w R h => callsIn_of_calls hF h) (by kernel_rfl) (by kernel_rfl) ?_ ?_
          · intro y hy
            simp only [List.mem_cons, List.not_mem_nil, or_false] at hy
            rcases hy with rfl | rfl | rfl | rfl | rfl | rfl | rfl | rfl | rfl | rfl | rfl | rfl | rfl | rfl | rfl | rfl | rfl | rfl | rfl <;> first | trivial
          simp only [List.take_succ_cons, List.take_zero, List.drop_succ_cons, List.drop_zero]
          iterate 8 (
            refine wpM_step (fun K hK => ?_)
            go_simp
            apply And.intro
            · intro w' hC _
              have q1 := hC.old.1
              have hbs := hC.old.2.2
              clear hC
              go_simp
              exact Ext.refl _
            refine nextM_det (hK _ _ ?_)
            clear hK K)
          refine wpM_step (fun K hK => ?_)
          go_simp
          apply And.intro
          · intro w' hC _
            go_simp
            refine ⟨Ext.refl _, (HC1.out w' hC).mono ?_⟩
            rintro e w1 ⟨rfl, hB1⟩
            exact ⟨rfl, hB1⟩
          refine nextM_det (hK _ _ ?_)
          clear hK K
          iterate 9 (
            rw [wpM]
            go_simp
            apply And.intro
            · intro w' hC _
              have q1 := hC.old.1
              have hbs := hC.old.2.2
              clear hC
              go_simp
              exact Ext.refl _
            simp only [nextM])
          rw [wpM]
          go_simp
          apply And.intro
          · intro w' hC _
            go_simp
            refine ⟨Ext.refl _, (HC2.out w' hC).mono ?_⟩
            rintro e w1 ⟨rfl, hB1⟩
            exact ⟨rfl, hB1⟩
          simp only [nextM]
          refine wpM_nil ?_
          intro W1 hC1 _
          clear p0 p1 a0 a1 a2 a3 e0 e1 e2 e3 c0 c1 c2 c3 d0 d1 d2 d3
          cases r2 with
          | false =>
            have HN2 : Hid ((key2 (.node k n s l) (.node k' n' s' l')) ∉ ks.take (j + 1)) := by
              rw [Hid, ← HKS.out, zip_take hlt hlt', List.mem_append, List.mem_singleton, HKS.out]
              rintro (h | h)
              · exact HNO.out h
              · obtain ⟨e1, e2⟩ := key2_inj h
                exact absurd (HEQ.out.2.2 e2.symm) (by decide)
            have HA2 := Lib.hid (HA.out.keep hC1)
            clear hC1
            gi_wp2_with fail
            go_roundw
            case rel => exact ⟨j + 1, hlt, by go_num, HA2.out, HN2.out⟩
            case measure => simp [intOf]; omega
          | true =>
            have HK : Hid (numK ks (key2 (.node k n s l) (.node k' n' s' l')) = (j : Int) ∧ addK ks (key2 (.node k n s l) (.node k' n' s' l')) = ks) := by
              have e1 : la[j] = (.node k n s l) := HEQ.out.1.1 rfl
              have e2 : lb[j] = (.node k' n' s' l') := HEQ.out.2.1 rfl
              have hz := zip_key hlt hlt'
              rw [e1, e2, HKS.out] at hz
              exact numK_at hz HNO.out
            have HA2 := Lib.hid (HA.out.keep hC1)
            clear hC1
            gi_wp2_with fail
            refine CallsIn.mono (callsIn_of_calls hF (refVarG_any _ _)) ?_
            rintro e W9 ⟨rfl, B⟩
            have HA9 := Lib.hid (HA2.out.keep B)
            clear B
            have u0 := HA9.out.b2.cell 0
            have u1 := HA9.out.b2.cell 1
            have u2 := HA9.out.b2.cell 2
            have u3 := HA9.out.b2.cell 3
            have g0 := HA9.out.b2.frozen 0
            have g1 := HA9.out.b2.frozen 1
            have g2 := HA9.out.b2.frozen 2
            have g3 := HA9.out.b2.frozen 3
            have l2 := HA9.out.b2.lt
            simp only [List.getElem?_toArray, List.getElem?_cons_succ, List.getElem?_cons_zero] at u0 u1 u2 u3
            have z := HA9.out.b2.four (.int .i64 1) (.int .i64 (j : Int)) (.string ⟨#[]⟩) (.slice none 0 0)
            have HF := Lib.hid (HA9.out.fin (la := la) (lb := lb) (X := (.node k n s l)) (U := (.node k' n' s' l')) HLAB.out (j : Int) (by unfold okI; omega) (by rw [HKS.out, HGEN.out, HK.out.1, HK.out.2]) (.int .i64 1) (.int .i64 (j : Int)) (.string ⟨#[]⟩) (.slice none 0 0))
            have y0 := z.cell 0
            have y1 := z.cell 1
            have y2 := z.cell 2
            have y3 := z.cell 3
            clear z
            gi_wp2_with fail
            clear u0 u1 u2 u3 g0 g1 g2 g3
            generalize ((((W9.setCell ⟨w.heap.size + 1 + 1, 0, none⟩ (.int .i64 1)).setCell ⟨w.heap.size + 1 + 1, 1, none⟩ (.int .i64 (j : Int))).setCell ⟨w.heap.size + 1 + 1, 2, none⟩ (.string ⟨#[]⟩)).setCell ⟨w.heap.size + 1 + 1, 3, none⟩ (.slice none 0 0)) = FW at *
            simp at y0 y1 y2 y3
            exact bodyPost_ret (v := .agg #[.int .i64 1, .int .i64 (j : Int), .string ⟨#[]⟩, .slice none 0 0]) (by simp [results, Tryd.results110, go_sem, y0, y1, y2, y3]) rfl HF.out
      · have HKEY : Hid ((key2 (.node k n s l) (.node k' n' s' l')) ∉ ks) := by
          have := HNO.out
          have h0 := hksl.out
          rwa [List.take_of_length_le (by omega)] at this
        have HNUM : Hid (numK ks (key2 (.node k n s l) (.node k' n' s' l')) = ((la.length : Nat) : Int) ∧ addK ks (key2 (.node k n s l) (.node k' n' s' l')) = ks ++ [(key2 (.node k n s l) (.node k' n' s' l'))]) := by rw [Hid, numK, addK, if_neg HKEY.out, if_neg HKEY.out, hksl.out]; exact ⟨rfl, rfl⟩
        have HZIP : Hid (List.zipWith key2 (la ++ [(.node k n s l)]) (lb ++ [(.node k' n' s' l')]) = ks ++ [(key2 (.node k n s l) (.node k' n' s' l'))]) := by rw [Hid, List.zipWith_append HLAB.out, HKS.out]; rfl
        gi_wp2_with fail
        clear p0
        obtain ⟨xsA, hownA, hfxA⟩ := HA.out.prs.ra
        have hxlA := hownA.1
        have HOFA := Lib.hid (And.intro hownA (And.intro hfxA hxlA))
        clear hownA hfxA hxlA
        obtain ⟨GA, hGA⟩ : ∃ G, appG (.slice ga la.length gc) (wr.heap.size + 1) = G := ⟨_, rfl⟩
        have HGA := Lib.hid hGA
        clear hGA
        have hnWA : n₀ ≤ wr.heap.size := Nat.le_trans hn HA.out.k3.size
        have hPlA := HA.out.prs.box.lt
        have hBlA := HA.out.b0.lt
        have HPGA : Hid (P ≠ GA) := fun e => by
          rcases appG_fr HGA.out with h | h
          · exact HA.out.prs.ne.1 (by rw [e]; exact h.symm)
          · omega
        have hcsA : ∀ y x, ((fun x : Value => (#[x, (.slice gb lb.length gcb)] : Array Value)) y).setIfInBounds 0 x = (fun x : Value => (#[x, (.slice gb lb.length gcb)] : Array Value)) x := fun y x => by simp
        have HCA : Hid (∀ ph w', ph < 2 → PC3 n₀ P wr (.slice ga la.length gc) (fun x : Value => (#[x, (.slice gb lb.length gcb)] : Array Value)) GA la.length xsA ph w' → w'.cell? ⟨P, 0, none⟩ = some (.slice ga la.length gc) ∧ w'.cell? ⟨w.heap.size, 0, none⟩ = some (.int .i64 k) ∧ w'.cell? ⟨w.heap.size, 1, none⟩ = some (.int .i64 n) ∧ w'.cell? ⟨w.heap.size, 2, none⟩ = some (.string s) ∧ w'.cell? ⟨w.heap.size, 3, none⟩ = some (.slice a l.length c)) := fun ph w' hph hC => by
          have hb1 : Box w' P _ _ := (hC.block hph hPlA).trans HA.out.prs.box
          have hb2 : Box w' (w.heap.size) _ _ := (hC.block hph hBlA).trans HA.out.b0
          exact ⟨hb1.cell 0, hb2.cell 0, hb2.cell 1, hb2.cell 2, hb2.cell 3⟩
        refine Late.wpIn_region_all 6 7 late3 early3 [.det (.pointer (some ⟨P, 0, none⟩)), .det (.pointer (some ⟨P, 0, none⟩)), .det (.pointer (some ⟨P, 0, none⟩)), .det (.slice ga la.length gc), .det (.agg #[.int .i64 k, .int .i64 n, .string s, .slice a l.length c]), .det (.int .i64 la.length), .det (.slice (some ⟨wr.heap.size, 0, none⟩) 1 1), .any (PV7 n₀ GA la.length xsA), .det (.pointer (some ⟨GA, la.length * 4, none⟩)), .any (PV9 n₀ GA la.length xsA (.int .i64 k) (.int .i64 n) (.string s) (.slice a l.length c)), .det (.pointer (some ⟨P, 0, none⟩)), .det (.pointer (some ⟨P, 0, none⟩)), .any (PV12 n₀ P (fun x : Value => (#[x, (.slice gb lb.length gcb)] : Array Value)) GA la.length xsA)]
          (PR3 n₀ P 0 GA la.length xsA (.int .i64 k) (.int .i64 n) (.string s) (.slice a l.length c)) (PC3 n₀ P wr (.slice ga la.length gc) (fun x : Value => (#[x, (.slice gb lb.length gcb)] : Array Value)) GA la.length xsA) hf hd (fun k f args w R h => callsIn_of_calls hF h) (by kernel_rfl) (by kernel_rfl) (by simp) (by omega) (by kernel_rfl) (by kernel_rfl) (by kernel_rfl) (fun i b h => p3_hys hcsA HOFA.out.2.2 HPGA.out _ _ _ _ _ _ _ _ _ _ _ _ _ _ i b h) (PC3.start _ _ _ _ _ _ _ _) ?_
        iterate 6 (
          refine Late.wpR_step (fun K hK => ?_)
          go_simp
          apply And.intro
          · rw [Late.yieldsR, if_neg (by decide), if_neg (by decide), if_neg (by decide), if_pos (by decide)]
            intro ph w' hph hC _
            obtain ⟨q1, q2, q3, q4, q5⟩ := HCA.out ph w' hph hC
            have Hq := Lib.hid hC
            clear hC hph
            go_simp
            first | exact ⟨PR3.refl _ _ _ _ _ _ _ _ _ _ _ _, Hq.out⟩ | exact ⟨PR3.refl _ _ _ _ _ _ _ _ _ _ _ _, Hq.out, rfl⟩
          refine nextM_det (hK _ _ ?_)
          clear hK K)
        refine Late.wpR_step (fun K hK => ?_)
        go_simp
        apply And.intro
        · rw [Late.yieldsR, if_pos rfl]
          intro w' hC _
          have hs' : w'.heap.size = wr.heap.size := hC.1
          have hres : PC3 n₀ P wr (.slice ga la.length gc) (fun x : Value => (#[x, (.slice gb lb.length gcb)] : Array Value)) GA la.length xsA 1 (w'.alloc (.cells #[.int .i64 0, .int .i64 0, .string ⟨#[]⟩, .slice none 0 0] 25)) := ⟨by rw [World.size_alloc, hs'], Below.alloc hC.2 (by omega) _, by rw [← hs']; exact Box.at rfl⟩
          have Hq := Lib.hid (And.intro hres hs')
          clear hC hres hs'
          go_simp
          have hs' := Hq.out.2
          first | exact ⟨trivial, Hq.out.1, by rw [hs']⟩ | exact ⟨trivial, Hq.out.1, hs'⟩ | exact ⟨Hq.out.1, by rw [hs']⟩ | exact ⟨Hq.out.1, hs'⟩
        refine nextM_det (hK _ _ ?_)
        clear hK K
        refine Late.wpR_step (fun K hK => ?_)
        go_simp
        apply And.intro
        · rw [Late.yieldsR, if_neg (by decide), if_pos rfl]
          intro w' hC _
          obtain ⟨v', w2, hr, h1, h2⟩ := PC3.app (v := (.slice ga la.length gc)) (cs := (fun x : Value => (#[x, (.slice gb lb.length gcb)] : Array Value))) (j := la.length) (xs := xsA) (by rw [HGA.out]; exact hC) HOFA.out.1 ⟨(.slice ga la.length gc), HA.out.prs.box⟩ HA.out.prs.ne.1 (by have := HLAB.out; omega) hnWA
          rw [HGA.out] at h1 h2
          exact uponP_append _ (.tmp 104) (.tmp 107) 22 rfl rfl rfl hr ⟨trivial, h1, h2⟩
        refine nextM_any (fun rvA => hK _ _ ?_)
        clear hK K
        refine Late.wpR_step (fun K hK => ?_)
        go_simp
        apply And.intro
        · rw [Late.yieldsR, if_neg (by decide), if_neg (by decide), if_pos (by decide)]
          intro w' hC hd'
          have h7 : PV7 n₀ GA la.length xsA rvA w' := hd' ⟨7, .data⟩ (by simp) rfl rvA rfl
          obtain ⟨cap, zs, rfl, -, -⟩ := h7
          have Hq := Lib.hid hC
          have hlq : ((la.length : Nat) : Int) < ((la.length : Nat) : Int) + 1 := by omega
          clear hC hd'
          go_simp
          first | exact ⟨.inl rfl, Hq.out⟩ | exact ⟨.inl rfl, Hq.out, rfl⟩ | exact ⟨PR3.refl _ _ _ _ _ _ _ _ _ _ 2 _, Hq.out⟩
        refine nextM_det (hK _ _ ?_)
        clear hK K
        refine Late.wpR_step (fun K hK => ?_)
        go_simp
        apply And.intro
        · rw [Late.yieldsR, if_neg (by decide), if_neg (by decide), if_pos (by decide)]
          intro w' hC hd'
          obtain ⟨hk3, hbx, cap, zs, hz, hrow⟩ := hC
          have hres := PC3.elem (v := (.slice ga la.length gc)) (cs := (fun x : Value => (#[x, (.slice gb lb.length gcb)] : Array Value))) HOFA.out.2.2 HPGA.out ((appG_fr HGA.out).imp id (fun h => by omega)) hk3 hbx hz hrow (.int .i64 k) (.int .i64 n) (.string s) (.slice a l.length c)
          have hgl := (hrow.lt GA rfl).2
          match zs, hz with
          | [z0, z1, z2, z3], _ =>
          have w0 : w'.cell? ⟨GA, la.length * 4, none⟩ = some z0 := by rw [hrow.cellAt _ (by omega), List.getElem?_append_right (by rw [HOFA.out.2.2]; omega), HOFA.out.2.2, Nat.sub_self]; rfl
          have w1 : w'.cell? ⟨GA, la.length * 4 + 1, none⟩ = some z1 := by rw [hrow.cellAt _ (by omega), List.getElem?_append_right (by rw [HOFA.out.2.2]; omega), HOFA.out.2.2, Nat.add_sub_cancel_left]; rfl
          have w2 : w'.cell? ⟨GA, la.length * 4 + 2, none⟩ = some z2 := by rw [hrow.cellAt _ (by omega), List.getElem?_append_right (by rw [HOFA.out.2.2]; omega), HOFA.out.2.2, Nat.add_sub_cancel_left]; rfl
          have w3 : w'.cell? ⟨GA, la.length * 4 + 3, none⟩ = some z3 := by rw [hrow.cellAt _ (by omega), List.getElem?_append_right (by rw [HOFA.out.2.2]; omega), HOFA.out.2.2, Nat.add_sub_cancel_left]; rfl
          have f0 := hrow.frozenAt (la.length * 4)
          have f1 := hrow.frozenAt (la.length * 4 + 1)
          have f2 := hrow.frozenAt (la.length * 4 + 2)
          have f3 := hrow.frozenAt (la.length * 4 + 3)
          have Hq := Lib.hid hres
          clear hres hrow hd' hk3 hbx
          go_simp
          exact ⟨.inr (.inl rfl), Hq.out.1, Hq.out.2⟩
        refine nextM_any (fun svA => hK _ _ ?_)
        clear hK K
        iterate 2 (
          refine Late.wpR_step (fun K hK => ?_)
          go_simp
          apply And.intro
          · rw [Late.yieldsR, if_neg (by decide), if_neg (by decide), if_neg (by decide), if_neg (by decide)]
            intro ph w' hC _
            have Hq := Lib.hid hC
            clear hC
            go_simp
            first | exact ⟨PR3.refl _ _ _ _ _ _ _ _ _ _ _ _, Hq.out⟩ | exact ⟨PR3.refl _ _ _ _ _ _ _ _ _ _ _ _, Hq.out, rfl⟩
          refine nextM_det (hK _ _ ?_)
          clear hK K)
        refine Late.wpR_step (fun K hK => ?_)
        go_simp
        apply And.intro
        · rw [Late.yieldsR, if_neg (by decide), if_neg (by decide), if_pos (by decide)]
          intro w' hC hd'
          have h7 : PV7 n₀ GA la.length xsA rvA w' := hd' ⟨7, .data⟩ (by simp) rfl rvA rfl
          obtain ⟨hk3, hbx, hrw⟩ := hC
          have hres := PC3.put (i := 0) hcsA HPGA.out hk3 hbx h7
          have H7 := Lib.hid h7
          obtain ⟨cap, zs, rfl, -, -⟩ := h7
          obtain ⟨y, hy⟩ := hbx
          have q0 := hy.cell 0
          have q1 := hy.frozen 0
          have q2 := hy.lt
          simp only [List.getElem?_toArray, List.getElem?_cons_zero] at q0
          have Hq := Lib.hid hres
          clear hres hrw hd' hk3 hy
          go_simp
          exact ⟨.inr (.inr ⟨_, H7.out, rfl⟩), Hq.out.1, Hq.out.2⟩
        refine nextM_any (fun tvA => hK _ _ ?_)
        clear hK K
        refine Late.wpR_nil ?_
        intro w3A hC hE
        have h7 : PV7 n₀ GA la.length xsA rvA w3A := hE 7 rvA rfl
        have h9 : PV9 n₀ GA la.length xsA (.int .i64 k) (.int .i64 n) (.string s) (.slice a l.length c) svA w3A := hE 9 svA rfl
        have h12 : PV12 n₀ P (fun x : Value => (#[x, (.slice gb lb.length gcb)] : Array Value)) GA la.length xsA tvA w3A := hE 12 tvA rfl
        clear hE
        have hk3 : K3 wr w3A P (.slice ga la.length gc) (.slice ga la.length gc) := hC.1
        obtain ⟨v12, h12a, h12b⟩ := h12
        rw [← h7.one h12a] at h12b
        have hB3 : Below n₀ wr w3A := ⟨hk3.os, hk3.tape, hk3.output, hk3.size, fun b hb => hk3.block b (by omega) (fun e => by have := HA.out.prs.hP; omega) (fun e => by have := (HA.out.prs.ra.lt b e.symm).1; omega) (fun e => by have := (HA.out.prs.ra.lt b e.symm).1; omega)⟩
        obtain ⟨hrow, capA, rfl⟩ := RowF.more (fs := la) (X := (.node k n s l)) rfl HOFA.out.2.2 HOFA.out.2.1 rfl (HT.out.1.below HA.out.below) hB3 h7 h9
        have HAA := Lib.hid (GsAt.pushA HA.out HGA.out hk3 hrow h12b)
        clear hC h7 h9 h12a h12b hrow hk3 hB3 hPlA hBlA
        gi_wp2_with fail
        obtain ⟨xsB, hownB, hfxB⟩ := HAA.out.prs.rb
        have hxlB := hownB.1
        have HOFB := Lib.hid (And.intro hownB (And.intro hfxB hxlB))
        clear hownB hfxB hxlB
        obtain ⟨GB, hGB⟩ : ∃ G, appG (.slice gb lb.length gcb) (w3A.heap.size + 1) = G := ⟨_, rfl⟩
        have HGB := Lib.hid hGB
        clear hGB
        have hnWB : n₀ ≤ w3A.heap.size := Nat.le_trans hn HAA.out.k3.size
        have hPlB := HAA.out.prs.box.lt
        have hBlB := HAA.out.b1.lt
        have HPGB : Hid (P ≠ GB) := fun e => by
          rcases appG_fr HGB.out with h | h
          · exact HAA.out.prs.ne.2 (by rw [e]; exact h.symm)
          · omega
        have hcsB : ∀ y x, ((fun x : Value => (#[.slice (some ⟨GA, 0, none⟩) (la.length + 1) capA, x] : Array Value)) y).setIfInBounds 1 x = (fun x : Value => (#[.slice (some ⟨GA, 0, none⟩) (la.length + 1) capA, x] : Array Value)) x := fun y x => by simp
        have HCB : Hid (∀ ph w', ph < 2 → PC3 n₀ P w3A (.slice gb lb.length gcb) (fun x : Value => (#[.slice (some ⟨GA, 0, none⟩) (la.length + 1) capA, x] : Array Value)) GB lb.length xsB ph w' → w'.cell? ⟨P, 1, none⟩ = some (.slice gb lb.length gcb) ∧ w'.cell? ⟨w.heap.size + 1, 0, none⟩ = some (.int .i64 k') ∧ w'.cell? ⟨w.heap.size + 1, 1, none⟩ = some (.int .i64 n') ∧ w'.cell? ⟨w.heap.size + 1, 2, none⟩ = some (.string s') ∧ w'.cell? ⟨w.heap.size + 1, 3, none⟩ = some (.slice a' l'.length c')) := fun ph w' hph hC => by
          have hb1 : Box w' P _ _ := (hC.block hph hPlB).trans HAA.out.prs.box
          have hb2 : Box w' (w.heap.size + 1) _ _ := (hC.block hph hBlB).trans HAA.out.b1
          exact ⟨hb1.cell 1, hb2.cell 0, hb2.cell 1, hb2.cell 2, hb2.cell 3⟩
        refine Late.wpIn_region_all 6 7 late3 early3 [.det (.pointer (some ⟨P, 0, none⟩)), .det (.pointer (some ⟨P, 0, none⟩)), .det (.pointer (some ⟨P, 1, none⟩)), .det (.slice gb lb.length gcb), .det (.agg #[.int .i64 k', .int .i64 n', .string s', .slice a' l'.length c']), .det (.int .i64 lb.length), .det (.slice (some ⟨w3A.heap.size, 0, none⟩) 1 1), .any (PV7 n₀ GB lb.length xsB), .det (.pointer (some ⟨GB, lb.length * 4, none⟩)), .any (PV9 n₀ GB lb.length xsB (.int .i64 k') (.int .i64 n') (.string s') (.slice a' l'.length c')), .det (.pointer (some ⟨P, 0, none⟩)), .det (.pointer (some ⟨P, 1, none⟩)), .any (PV12 n₀ P (fun x : Value => (#[.slice (some ⟨GA, 0, none⟩) (la.length + 1) capA, x] : Array Value)) GB lb.length xsB)]
          (PR3 n₀ P 1 GB lb.length xsB (.int .i64 k') (.int .i64 n') (.string s') (.slice a' l'.length c')) (PC3 n₀ P w3A (.slice gb lb.length gcb) (fun x : Value => (#[.slice (some ⟨GA, 0, none⟩) (la.length + 1) capA, x] : Array Value)) GB lb.length xsB) hf hd (fun k f args w R h => callsIn_of_calls hF h) (by kernel_rfl) (by kernel_rfl) (by simp) (by omega) (by kernel_rfl) (by kernel_rfl) (by kernel_rfl) (fun i b h => p3_hys hcsB HOFB.out.2.2 HPGB.out _ _ _ _ _ _ _ _ _ _ _ _ _ _ i b h) (PC3.start _ _ _ _ _ _ _ _) ?_
        iterate 6 (
          refine Late.wpR_step (fun K hK => ?_)
          go_simp
          apply And.intro
          · rw [Late.yieldsR, if_neg (by decide), if_neg (by decide), if_neg (by decide), if_pos (by decide)]
            intro ph w' hph hC _
            obtain ⟨q1, q2, q3, q4, q5⟩ := HCB.out ph w' hph hC
            have Hq := Lib.hid hC
            clear hC hph
            go_simp
            first | exact ⟨PR3.refl _ _ _ _ _ _ _ _ _ _ _ _, Hq.out⟩ | exact ⟨PR3.refl _ _ _ _ _ _ _ _ _ _ _ _, Hq.out, rfl⟩
          refine nextM_det (hK _ _ ?_)
          clear hK K)
        refine Late.wpR_step (fun K hK => ?_)
        go_simp
        apply And.intro
        · rw [Late.yieldsR, if_pos rfl]
          intro w' hC _
          have hs' : w'.heap.size = w3A.heap.size := hC.1
          have hres : PC3 n₀ P w3A (.slice gb lb.length gcb) (fun x : Value => (#[.slice (some ⟨GA, 0, none⟩) (la.length + 1) capA, x] : Array Value)) GB lb.length xsB 1 (w'.alloc (.cells #[.int .i64 0, .int .i64 0, .string ⟨#[]⟩, .slice none 0 0] 25)) := ⟨by rw [World.size_alloc, hs'], Below.alloc hC.2 (by omega) _, by rw [← hs']; exact Box.at rfl⟩
          have Hq := Lib.hid (And.intro hres hs')
          clear hC hres hs'
          go_simp
          have hs' := Hq.out.2
          first | exact ⟨trivial, Hq.out.1, by rw [hs']⟩ | exact ⟨trivial, Hq.out.1, hs'⟩ | exact ⟨Hq.out.1, by rw [hs']⟩ | exact ⟨Hq.out.1, hs'⟩
        refine nextM_det (hK _ _ ?_)
        clear hK K
        refine Late.wpR_step (fun K hK => ?_)
        go_simp
        apply And.intro
        · rw [Late.yieldsR, if_neg (by decide), if_pos rfl]
          intro w' hC _
          obtain ⟨v', w2, hr, h1, h2⟩ := PC3.app (v := (.slice gb lb.length gcb)) (cs := (fun x : Value => (#[.slice (some ⟨GA, 0, none⟩) (la.length + 1) capA, x] : Array Value))) (j := lb.length) (xs := xsB) (by rw [HGB.out]; exact hC) HOFB.out.1 ⟨(.slice gb lb.length gcb), HAA.out.prs.box⟩ HAA.out.prs.ne.2 (by have := HLAB.out; omega) hnWB
          rw [HGB.out] at h1 h2
          exact uponP_append _ (.tmp 115) (.tmp 118) 22 rfl rfl rfl hr ⟨trivial, h1, h2⟩
        refine nextM_any (fun rvB => hK _ _ ?_)
        clear hK K
        refine Late.wpR_step (fun K hK => ?_)
        go_simp
        apply And.intro
        · rw [Late.yieldsR, if_neg (by decide), if_neg (by decide), if_pos (by decide)]
          intro w' hC hd'
          have h7 : PV7 n₀ GB lb.length xsB rvB w' := hd' ⟨7, .data⟩ (by simp) rfl rvB rfl
          obtain ⟨cap, zs, rfl, -, -⟩ := h7
          have Hq := Lib.hid hC
          have hlq : ((lb.length : Nat) : Int) < ((lb.length : Nat) : Int) + 1 := by omega
          clear hC hd'
          go_simp
          first | exact ⟨.inl rfl, Hq.out⟩ | exact ⟨.inl rfl, Hq.out, rfl⟩ | exact ⟨PR3.refl _ _ _ _ _ _ _ _ _ _ 2 _, Hq.out⟩
        refine nextM_det (hK _ _ ?_)
        clear hK K
        refine Late.wpR_step (fun K hK => ?_)
        go_simp
        apply And.intro
        · rw [Late.yieldsR, if_neg (by decide), if_neg (by decide), if_pos (by decide)]
          intro w' hC hd'
          obtain ⟨hk3, hbx, cap, zs, hz, hrow⟩ := hC
          have hres := PC3.elem (v := (.slice gb lb.length gcb)) (cs := (fun x : Value => (#[.slice (some ⟨GA, 0, none⟩) (la.length + 1) capA, x] : Array Value))) HOFB.out.2.2 HPGB.out ((appG_fr HGB.out).imp id (fun h => by omega)) hk3 hbx hz hrow (.int .i64 k') (.int .i64 n') (.string s') (.slice a' l'.length c')
          have hgl := (hrow.lt GB rfl).2
          match zs, hz with
          | [z0, z1, z2, z3], _ =>
          have w0 : w'.cell? ⟨GB, lb.length * 4, none⟩ = some z0 := by rw [hrow.cellAt _ (by omega), List.getElem?_append_right (by rw [HOFB.out.2.2]; omega), HOFB.out.2.2, Nat.sub_self]; rfl
          have w1 : w'.cell? ⟨GB, lb.length * 4 + 1, none⟩ = some z1 := by rw [hrow.cellAt _ (by omega), List.getElem?_append_right (by rw [HOFB.out.2.2]; omega), HOFB.out.2.2, Nat.add_sub_cancel_left]; rfl
          have w2 : w'.cell? ⟨GB, lb.length * 4 + 2, none⟩ = some z2 := by rw [hrow.cellAt _ (by omega), List.getElem?_append_right (by rw [HOFB.out.2.2]; omega), HOFB.out.2.2, Nat.add_sub_cancel_left]; rfl
          have w3 : w'.cell? ⟨GB, lb.length * 4 + 3, none⟩ = some z3 := by rw [hrow.cellAt _ (by omega), List.getElem?_append_right (by rw [HOFB.out.2.2]; omega), HOFB.out.2.2, Nat.add_sub_cancel_left]; rfl
          have f0 := hrow.frozenAt (lb.length * 4)
          have f1 := hrow.frozenAt (lb.length * 4 + 1)
          have f2 := hrow.frozenAt (lb.length * 4 + 2)
          have f3 := hrow.frozenAt (lb.length * 4 + 3)
          have Hq := Lib.hid hres
          clear hres hrow hd' hk3 hbx
          go_simp
          exact ⟨.inr (.inl rfl), Hq.out.1, Hq.out.2⟩
        refine nextM_any (fun svB => hK _ _ ?_)
        clear hK K
        iterate 2 (
          refine Late.wpR_step (fun K hK => ?_)
          go_simp
          apply And.intro
          · rw [Late.yieldsR, if_neg (by decide), if_neg (by decide), if_neg (by decide), if_neg (by decide)]
            intro ph w' hC _
            have Hq := Lib.hid hC
            clear hC
            go_simp
            first | exact ⟨PR3.refl _ _ _ _ _ _ _ _ _ _ _ _, Hq.out⟩ | exact ⟨PR3.refl _ _ _ _ _ _ _ _ _ _ _ _, Hq.out, rfl⟩
          refine nextM_det (hK _ _ ?_)
          clear hK K)
        refine Late.wpR_step (fun K hK => ?_)
        go_simp
        apply And.intro
        · rw [Late.yieldsR, if_neg (by decide), if_neg (by decide), if_pos (by decide)]
          intro w' hC hd'
          have h7 : PV7 n₀ GB lb.length xsB rvB w' := hd' ⟨7, .data⟩ (by simp) rfl rvB rfl
          obtain ⟨hk3, hbx, hrw⟩ := hC
          have hres := PC3.put (i := 1) hcsB HPGB.out hk3 hbx h7
          have H7 := Lib.hid h7
          obtain ⟨cap, zs, rfl, -, -⟩ := h7
          obtain ⟨y, hy⟩ := hbx
          have q0 := hy.cell 1
          have q1 := hy.frozen 1
          have q2 := hy.lt
          simp only [List.getElem?_toArray, List.getElem?_cons_succ, List.getElem?_cons_zero] at q0
          have Hq := Lib.hid hres
          clear hres hrw hd' hk3 hy
          go_simp
          exact ⟨.inr (.inr ⟨_, H7.out, rfl⟩), Hq.out.1, Hq.out.2⟩
        refine nextM_any (fun tvB => hK _ _ ?_)
        clear hK K
        refine Late.wpR_nil ?_
        intro w3B hC hE
        have h7 : PV7 n₀ GB lb.length xsB rvB w3B := hE 7 rvB rfl
        have h9 : PV9 n₀ GB lb.length xsB (.int .i64 k') (.int .i64 n') (.string s') (.slice a' l'.length c') svB w3B := hE 9 svB rfl
        have h12 : PV12 n₀ P (fun x : Value => (#[.slice (some ⟨GA, 0, none⟩) (la.length + 1) capA, x] : Array Value)) GB lb.length xsB tvB w3B := hE 12 tvB rfl
        clear hE
        have hk3 : K3 w3A w3B P (.slice gb lb.length gcb) (.slice gb lb.length gcb) := hC.1
        obtain ⟨v12, h12a, h12b⟩ := h12
        rw [← h7.one h12a] at h12b
        have hB3 : Below n₀ w3A w3B := ⟨hk3.os, hk3.tape, hk3.output, hk3.size, fun b hb => hk3.block b (by omega) (fun e => by have := HAA.out.prs.hP; omega) (fun e => by have := (HAA.out.prs.rb.lt b e.symm).1; omega) (fun e => by have := (HAA.out.prs.rb.lt b e.symm).1; omega)⟩
        obtain ⟨hrow, capB, rfl⟩ := RowF.more (fs := lb) (X := (.node k' n' s' l')) rfl HOFB.out.2.2 HOFB.out.2.1 rfl (HT.out.2.below HAA.out.below) hB3 h7 h9
        have HAB := Lib.hid (GsAt.pushB HAA.out HGB.out hk3 hrow h12b)
        clear hC h7 h9 h12a h12b hrow hk3 hB3 hPlB hBlB
        have p0 := HAB.out.prs.box.cell 0
        have lP2 := HAB.out.prs.box.lt
        simp only [List.getElem?_toArray, List.getElem?_cons_zero] at p0
        gi_wp2_with fail
        clear p0
        refine CallsIn.mono (callsIn_of_calls hF (refVarG_any _ _)) ?_
        rintro e W9 ⟨rfl, B⟩
        have HA9 := Lib.hid (HAB.out.keep B)
        clear B
        have u0 := HA9.out.b2.cell 0
        have u1 := HA9.out.b2.cell 1
        have u2 := HA9.out.b2.cell 2
        have u3 := HA9.out.b2.cell 3
        have g0 := HA9.out.b2.frozen 0
        have g1 := HA9.out.b2.frozen 1
        have g2 := HA9.out.b2.frozen 2
        have g3 := HA9.out.b2.frozen 3
        have l2 := HA9.out.b2.lt
        simp only [List.getElem?_toArray, List.getElem?_cons_succ, List.getElem?_cons_zero] at u0 u1 u2 u3
        have z := HA9.out.b2.four (.int .i64 1) (.int .i64 (la.length : Int)) (.string ⟨#[]⟩) (.slice none 0 0)
        have HF := Lib.hid (HA9.out.fin (la := la) (lb := lb) (X := (.node k n s l)) (U := (.node k' n' s' l')) (by have := HLAB.out; simp; omega) (la.length : Int) (by unfold okI; omega) (by rw [HKS.out, HGEN.out, HNUM.out.1, HNUM.out.2, HZIP.out]) (.int .i64 1) (.int .i64 (la.length : Int)) (.string ⟨#[]⟩) (.slice none 0 0))
        have y0 := z.cell 0
        have y1 := z.cell 1
        have y2 := z.cell 2
        have y3 := z.cell 3
        clear z
        gi_wp2_with fail
        clear u0 u1 u2 u3 g0 g1 g2 g3
        generalize ((((W9.setCell ⟨w.heap.size + 1 + 1, 0, none⟩ (.int .i64 1)).setCell ⟨w.heap.size + 1 + 1, 1, none⟩ (.int .i64 (la.length : Int))).setCell ⟨w.heap.size + 1 + 1, 2, none⟩ (.string ⟨#[]⟩)).setCell ⟨w.heap.size + 1 + 1, 3, none⟩ (.slice none 0 0)) = FW at *
        simp at y0 y1 y2 y3
        exact bodyPost_ret (v := .agg #[.int .i64 1, .int .i64 (la.length : Int), .string ⟨#[]⟩, .slice none 0 0]) (by simp [results, Tryd.results110, go_sem, y0, y1, y2, y3]) rfl HF.out
end Go.Proofs.YtlaeaoecmnaneaaDoor
