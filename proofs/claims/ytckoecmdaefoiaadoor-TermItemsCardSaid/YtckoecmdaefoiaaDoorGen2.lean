import Derived.Test.YtckoecmdaefoiaaDoorGenR
import Derived.Test.YtckoecmdaefoiaaDoorCopy
namespace Go.Proofs.YtckoecmdaefoiaaDoor
open Go.RowKit Go

attribute [local go_sem] Oper.semAt_some uponP Yld.says

set_option maxRecDepth 100000 in
set_option maxHeartbeats 2000000 in
theorem general_any (bm : Nat) (T : Tr) : ∀ (U : Tr) (tv uv : Value) (ks : List (List UInt8)) (w : World), IsT w.heap.size w T tv → IsT w.heap.size w U uv → Dict w bm ks → ks.length + T.size < 1000000000 → (textT T).length + (textT U).length ≤ 1000000000 →
    Lib.TabBelow Tryd.prog w.heap.size w "internal/strconv.uint64pow10" .u64 Lib.pow10Tab → Calls Tryd.prog 109 #[.map (some bm), tv, uv] w (GenPost T U ks bm w) := by
  induction T using Tr.ind with
  | h k n s l ih =>
  intro U tv uv ks w hT hU hd0 hks hlen htab
  refine (callsIn_wide (n := 9)).1 ?_
  generalize hF : Fence.wide = F
  have hd : F.depth = none := by subst hF; rfl
  have hf : ∀ f, F.fn f := fun f => by subst hF; trivial
  have hro : F.round = none := by subst hF; rfl
  cases U with
  | node k' n' s' l' =>
  have hT' := hT
  have hU' := hU
  obtain ⟨a, c, rfl, hok1, hok2, hok3, hlc, hcm, hl⟩ := hT'.open
  obtain ⟨a', c', rfl, _, _, _, hlc', hcm', hl'⟩ := hU'.open
  clear hT' hU'
  have HT := Lib.hid hT
  have HU := Lib.hid hU
  have HD := Lib.hid hd0
  have HI := Lib.hid ih
  have HLL := Lib.hid (And.intro hl hl')
  have hsz : ks.length < 1000000000 := by omega
  clear hT hU hd0 ih hl hl'
  have hBv := below_a3 (Nat.le_refl w.heap.size) (.cells #[.int .i64 k, .int .i64 n, .string s, .slice a l.length c] 25) (.cells #[.int .i64 k', .int .i64 n', .string s', .slice a' l'.length c'] 25) (.cells #[.int .i64 0, .int .i64 0, .string ⟨#[]⟩, .slice none 0 0] 25)
  have b0 : Box (((w.alloc (.cells #[.int .i64 k, .int .i64 n, .string s, .slice a l.length c] 25)).alloc (.cells #[.int .i64 k', .int .i64 n', .string s', .slice a' l'.length c'] 25)).alloc (.cells #[.int .i64 0, .int .i64 0, .string ⟨#[]⟩, .slice none 0 0] 25)) w.heap.size #[.int .i64 k, .int .i64 n, .string s, .slice a l.length c] 25 := ((Box.at rfl).alloc _).alloc _
  have b1 : Box (((w.alloc (.cells #[.int .i64 k, .int .i64 n, .string s, .slice a l.length c] 25)).alloc (.cells #[.int .i64 k', .int .i64 n', .string s', .slice a' l'.length c'] 25)).alloc (.cells #[.int .i64 0, .int .i64 0, .string ⟨#[]⟩, .slice none 0 0] 25)) (w.heap.size + 1) #[.int .i64 k', .int .i64 n', .string s', .slice a' l'.length c'] 25 := (Box.at (by simp)).alloc _
  have b2 : Box (((w.alloc (.cells #[.int .i64 k, .int .i64 n, .string s, .slice a l.length c] 25)).alloc (.cells #[.int .i64 k', .int .i64 n', .string s', .slice a' l'.length c'] 25)).alloc (.cells #[.int .i64 0, .int .i64 0, .string ⟨#[]⟩, .slice none 0 0] 25)) (w.heap.size + 1 + 1) #[.int .i64 0, .int .i64 0, .string ⟨#[]⟩, .slice none 0 0] 25 := Box.at (by simp)
  have hdv := HD.out.kept (grown_b none hBv) (by simp)
  refine callsIn_of_wp Tryd.func109 rfl (hf _) ?_ hro
  simp only [Tryd.ntmps109, List.size_toArray, List.length_cons, List.length_nil, Nat.reduceAdd, Nat.reduceSub, Array.replicate_succ, Array.replicate_zero, List.push_toArray, List.append_toArray, List.nil_append, List.cons_append]
  by_cases hk : k = 1
  · have hcase : k = 1 ∨ topT (.node k n s l) (.node k' n' s' l') = false := .inl hk
    subst hk
    have hgen : Hid (genT (.node 1 n s l) (.node k' n' s' l') ks = (.node 1 (numK ks (textT (.node 1 n s l) ++ textT (.node k' n' s' l'))) emp [], addK ks (textT (.node 1 n s l) ++ textT (.node k' n' s' l')))) := by rw [Hid, genT, if_pos hcase]
    clear hcase
    gi_wp2_with fail
    refine CallsIn.mono (callsIn_of_calls hF (variable_any (.node 1 n s l) (.node k' n' s' l') _ _ ks bm _ (HT.out.up hBv hBv.size) (HU.out.up hBv hBv.size) hdv hsz hlen (fun w'' h => (htab.on hBv) w'' (h.mono hBv.size)))) ?_
    rintro e w5 ⟨rfl, hd5, hg5⟩
    have b5 : Box w5 (w.heap.size + 1 + 1) #[.int .i64 0, .int .i64 0, .string ⟨#[]⟩, .slice none 0 0] 25 := (hg5.block _ b2.lt (by simpa using hdv.not_box b2)).trans b2
    have hneb : w.heap.size + 1 + 1 ≠ bm := hdv.not_box b2
    have hgw := grown_trans (grown_b (some bm) hBv) hg5
    have hnok := numK_ok (ks := ks) (by omega) (textT (.node 1 n s l) ++ textT (.node k' n' s' l'))
    generalize numK ks (textT (.node 1 n s l) ++ textT (.node k' n' s' l')) = num at *
    generalize addK ks (textT (.node 1 n s l) ++ textT (.node k' n' s' l')) = ks5 at *
    clear hdv hg5 b2 hBv
    have g0 := b5.frozen 0
    have g1 := b5.frozen 1
    have g2 := b5.frozen 2
    have g3 := b5.frozen 3
    have r0 := b5.cell 0
    have r1 := b5.cell 1
    have r2 := b5.cell 2
    have r3 := b5.cell 3
    have lr := b5.lt
    simp only [List.getElem?_toArray, List.getElem?_cons_succ, List.getElem?_cons_zero] at r0 r1 r2 r3
    gi_wp2_with fail
    have z := (((b5.set 0 (.int .i64 1)).set 1 (.int .i64 num)).set 2 (.string ⟨#[]⟩)).set 3 (.slice none 0 0)
    have y0 := z.cell 0
    have y1 := z.cell 1
    have y2 := z.cell 2
    have y3 := z.cell 3
    have zB := ((((Below.refl w.heap.size w5).setCell (p := ⟨w.heap.size + 1 + 1, 0, none⟩) (by simp; omega) (.int .i64 1)).setCell (p := ⟨w.heap.size + 1 + 1, 1, none⟩) (by simp; omega) (.int .i64 num)).setCell (p := ⟨w.heap.size + 1 + 1, 2, none⟩) (by simp; omega) (.string ⟨#[]⟩)).setCell (p := ⟨w.heap.size + 1 + 1, 3, none⟩) (by simp; omega) (.slice none 0 0)
    have zG := grown_below2 hgw zB
    have zD := (((hd5.set (w.heap.size + 1 + 1) 0 (.int .i64 1) (Ne.symm hneb)).set (w.heap.size + 1 + 1) 1 (.int .i64 num) (Ne.symm hneb)).set (w.heap.size + 1 + 1) 2 (.string ⟨#[]⟩) (Ne.symm hneb)).set (w.heap.size + 1 + 1) 3 (.slice none 0 0) (Ne.symm hneb)
    clear z zB
    generalize ((((w5.setCell ⟨w.heap.size + 1 + 1, 0, none⟩ (.int .i64 1)).setCell ⟨w.heap.size + 1 + 1, 1, none⟩ (.int .i64 num)).setCell ⟨w.heap.size + 1 + 1, 2, none⟩ (.string ⟨#[]⟩)).setCell ⟨w.heap.size + 1 + 1, 3, none⟩ (.slice none 0 0)) = FW at *
    simp at y0 y1 y2 y3
    refine bodyPost_ret (v := .agg #[.int .i64 1, .int .i64 num, .string ⟨#[]⟩, .slice none 0 0]) (by simp [results, Tryd.results109, go_sem, y0, y1, y2, y3]) rfl ⟨_, rfl, ?_, ?_, zG⟩
    · rw [hgen.out]
      exact IsP.mk (l := []) (by unfold okI; omega) hnok (by decide) (Nat.le_refl _) (by decide) IsPL.nil
    · rw [hgen.out]
      exact zD
  · have hk' : (k == 1) = false := by simpa using hk
    have t0 := b0.cell 0
    simp only [List.getElem?_toArray, List.getElem?_cons_zero] at t0
    have HK := Lib.hid hk
    clear hk
    gi_wp2_with fail
    refine CallsIn.mono (callsIn_of_calls hF (sameTop_any k n s l.length k' n' s' l'.length a a' c c' _)) ?_
    rintro e w1 ⟨rfl, hB1⟩
    replace b0 := Box.keep hB1 b0
    replace b1 := Box.keep hB1 b1
    replace b2 := Box.keep hB1 b2
    replace hdv := hdv.kept (grown_b none hB1) (by simp)
    replace hBv := hBv.trans (hB1.mono hBv.size)
    have hs1 : w.heap.size + 3 ≤ w1.heap.size := by have := hB1.size; simp at this; omega
    clear hB1 t0
    have t0 := b0.cell 0
    have t1 := b0.cell 1
    have t2 := b0.cell 2
    have t3 := b0.cell 3
    have u0 := b1.cell 0
    have u1 := b1.cell 1
    have u2 := b1.cell 2
    have u3 := b1.cell 3
    have l0 := b0.lt
    have l1 := b1.lt
    simp only [List.getElem?_toArray, List.getElem?_cons_succ, List.getElem?_cons_zero] at t0 t1 t2 t3 u0 u1 u2 u3
    cases htop : topB k n s l.length k' n' s' l'.length with
    | false =>
    have hcase : k = 1 ∨ topT (.node k n s l) (.node k' n' s' l') = false := .inr htop
    have hgen : Hid (genT (.node k n s l) (.node k' n' s' l') ks = (.node 1 (numK ks (textT (.node k n s l) ++ textT (.node k' n' s' l'))) emp [], addK ks (textT (.node k n s l) ++ textT (.node k' n' s' l')))) := by rw [Hid, genT, if_pos hcase]
    clear htop hcase
    gi_wp2_with fail
    refine CallsIn.mono (callsIn_of_calls hF (variable_any (.node k n s l) (.node k' n' s' l') _ _ ks bm w1 (HT.out.up hBv hBv.size) (HU.out.up hBv hBv.size) hdv hsz hlen (fun w'' h => (htab.on hBv) w'' (h.mono hBv.size)))) ?_
    clear t0 t1 t2 t3 u0 u1 u2 u3 b0 b1
    rintro e w5 ⟨rfl, hd5, hg5⟩
    have b5 : Box w5 (w.heap.size + 1 + 1) #[.int .i64 0, .int .i64 0, .string ⟨#[]⟩, .slice none 0 0] 25 := (hg5.block _ b2.lt (by simpa using hdv.not_box b2)).trans b2
    have hneb : w.heap.size + 1 + 1 ≠ bm := hdv.not_box b2
    have hgw := grown_trans (grown_b (some bm) hBv) hg5
    have hnok := numK_ok (ks := ks) (by omega) (textT (.node k n s l) ++ textT (.node k' n' s' l'))
    generalize numK ks (textT (.node k n s l) ++ textT (.node k' n' s' l')) = num at *
    generalize addK ks (textT (.node k n s l) ++ textT (.node k' n' s' l')) = ks5 at *
    clear hdv hg5 b2 hBv
    have g0 := b5.frozen 0
    have g1 := b5.frozen 1
    have g2 := b5.frozen 2
    have g3 := b5.frozen 3
    have r0 := b5.cell 0
    have r1 := b5.cell 1
    have r2 := b5.cell 2
    have r3 := b5.cell 3
    have lr := b5.lt
    simp only [List.getElem?_toArray, List.getElem?_cons_succ, List.getElem?_cons_zero] at r0 r1 r2 r3
    gi_wp2_with fail
    have z := (((b5.set 0 (.int .i64 1)).set 1 (.int .i64 num)).set 2 (.string ⟨#[]⟩)).set 3 (.slice none 0 0)
    have y0 := z.cell 0
    have y1 := z.cell 1
    have y2 := z.cell 2
    have y3 := z.cell 3
    have zB := ((((Below.refl w.heap.size w5).setCell (p := ⟨w.heap.size + 1 + 1, 0, none⟩) (by simp; omega) (.int .i64 1)).setCell (p := ⟨w.heap.size + 1 + 1, 1, none⟩) (by simp; omega) (.int .i64 num)).setCell (p := ⟨w.heap.size + 1 + 1, 2, none⟩) (by simp; omega) (.string ⟨#[]⟩)).setCell (p := ⟨w.heap.size + 1 + 1, 3, none⟩) (by simp; omega) (.slice none 0 0)
    have zG := grown_below2 hgw zB
    have zD := (((hd5.set (w.heap.size + 1 + 1) 0 (.int .i64 1) (Ne.symm hneb)).set (w.heap.size + 1 + 1) 1 (.int .i64 num) (Ne.symm hneb)).set (w.heap.size + 1 + 1) 2 (.string ⟨#[]⟩) (Ne.symm hneb)).set (w.heap.size + 1 + 1) 3 (.slice none 0 0) (Ne.symm hneb)
    clear z zB
    generalize ((((w5.setCell ⟨w.heap.size + 1 + 1, 0, none⟩ (.int .i64 1)).setCell ⟨w.heap.size + 1 + 1, 1, none⟩ (.int .i64 num)).setCell ⟨w.heap.size + 1 + 1, 2, none⟩ (.string ⟨#[]⟩)).setCell ⟨w.heap.size + 1 + 1, 3, none⟩ (.slice none 0 0)) = FW at *
    simp at y0 y1 y2 y3
    refine bodyPost_ret (v := .agg #[.int .i64 1, .int .i64 num, .string ⟨#[]⟩, .slice none 0 0]) (by simp [results, Tryd.results109, go_sem, y0, y1, y2, y3]) rfl ⟨_, rfl, ?_, ?_, zG⟩
    · rw [hgen.out]
      exact IsP.mk (l := []) (by unfold okI; omega) hnok (by decide) (Nat.le_refl _) (by decide) IsPL.nil
    · rw [hgen.out]
      exact zD
    | true =>
    have hll := top_subs (show topT (.node k n s l) (.node k' n' s' l') = true from htop)
    have HG : Hid (genT (.node k n s l) (.node k' n' s' l') ks = (.node k n s (genL l l' ks).1, (genL l l' ks).2)) := by
      rw [Hid, genT, if_neg (by simp [HK.out]; exact htop)]; rfl
    clear htop
    have Hll := Lib.hid hll
    clear hll
    gi_wp2_with fail
    gi_loopw [33] (fun i wr => ∃ j : Nat, j ≤ l.length ∧ i = .int .i64 j ∧ GenInv w.heap.size w1.heap.size bm k n s #[.int .i64 k, .int .i64 n, .string s, .slice a l.length c] #[.int .i64 k', .int .i64 n', .string s', .slice a' l'.length c'] l l' ks w j wr) (fun i _ => l.length - (intOf i).toNat)
    case atStart =>
      have hl0 : genL (l.take 0) (l'.take 0) ks = ([], ks) := by simp [genL]
      refine ⟨0, Nat.zero_le _, rfl, .slice none 0 0, [], b0.alloc _, b1.alloc _, b2.alloc _, Box.at rfl, World.ownsRow_nil _ _ _ _, ?_, ?_, ?_⟩
      · rw [hl0]; exact LaidR.nil
      · rw [hl0]; exact hdv.kept (World.grownBy_alloc _ _ none) (by simp)
      · exact grown_b _ (hBv.trans (below_a1 hBv.size _))
    case round =>
      obtain ⟨j, hj, rfl, hinv⟩ := hrel
      by_cases hlt : j < l.length
      · obtain ⟨ov, xs, i0, i1, i2, i3, i4, i5, i6, i7⟩ := hinv
        have hlt' : j < l'.length := by rw [← Hll.out]; exact hlt
        obtain ⟨b, off, rfl, hbb⟩ := HLL.out.1.addr (by omega)
        obtain ⟨b', off', rfl, hbb'⟩ := HLL.out.2.addr (by omega)
        obtain ⟨tk, tn, ts, tl, ta, tc, te, c0, c1, c2, c3, ht⟩ := HLL.out.1.node j hlt
        obtain ⟨uk, un, us, ul, ua, uc, ue, e0, e1, e2, e3, hu⟩ := HLL.out.2.node j hlt'
        have hbm : b ≠ bm := HD.out.not_cell c0
        have hbm' : b' ≠ bm := HD.out.not_cell e0
        have d0 := i7.cell c0 (by simpa using hbm)
        have d1 := i7.cell c1 (by simpa using hbm)
        have d2 := i7.cell c2 (by simpa using hbm)
        have d3 := i7.cell c3 (by simpa using hbm)
        have f0 := i7.cell e0 (by simpa using hbm')
        have f1 := i7.cell e1 (by simpa using hbm')
        have f2 := i7.cell e2 (by simpa using hbm')
        have f3 := i7.cell e3 (by simpa using hbm')
        have hwr : w.heap.size ≤ wr.heap.size := i7.size
        have hbw : b < wr.heap.size := by omega
        have hbw' : b' < wr.heap.size := by omega
        have hbo := i3.lt
        have HJ := Lib.hid (And.intro i0 (And.intro i1 (And.intro i2 (And.intro i3 (And.intro i4 (And.intro i5 (And.intro i6 i7)))))))
        have HTE := Lib.hid (And.intro te ue)
        have HHT := Lib.hid (And.intro ht hu)
        clear i0 i1 i2 i3 i4 i5 i6 i7 te ue ht hu c0 c1 c2 c3 e0 e1 e2 e3
        gi_wp2_with fail
        have x0 : Box (wr.alloc (.cells #[.int .i64 tk, .int .i64 tn, .string ts, .slice ta tl.length tc] 25)) wr.heap.size #[.int .i64 tk, .int .i64 tn, .string ts, .slice ta tl.length tc] 25 := Box.at rfl
        obtain ⟨i0, i1, i2, i3, i4, i5, i6, i7⟩ := HJ.out
        have hB6 := below_a1 (Nat.le_refl wr.heap.size) (.cells #[.int .i64 tk, .int .i64 tn, .string ts, .slice ta tl.length tc] 25)
        have p1 := Box.keep hB6 i1
        have p3 := Box.keep hB6 i3
        have p0 := Box.keep hB6 i0
        have p2 := Box.keep hB6 i2
        have p4 := i4.kept (grown_b none hB6) (by rcases ov.ownBlock with _ | _ <;> simp)
        have p6 := i6.kept (grown_b none hB6) (by simp)
        have p7 := grown_trans i7 (grown_b (some bm) hB6)
        have z0 := hB6.cell (p := ⟨b', off' + j * 4, none⟩) hbw' |>.trans f0
        have z1 := hB6.cell (p := ⟨b', off' + j * 4 + 1, none⟩) hbw' |>.trans f1
        have z2 := hB6.cell (p := ⟨b', off' + j * 4 + 2, none⟩) hbw' |>.trans f2
        have z3 := hB6.cell (p := ⟨b', off' + j * 4 + 3, none⟩) hbw' |>.trans f3
        have hrow : ∀ k, ov.ownBlock = some k → w1.heap.size + 1 ≤ k ∧ k < wr.heap.size := fun k hk => i4.lt k hk
        have hs6 : wr.heap.size < (wr.alloc (.cells #[.int .i64 tk, .int .i64 tn, .string ts, .slice ta tl.length tc] 25)).heap.size := by simp
        have p5 := i5.map (B := wr.alloc (.cells #[.int .i64 tk, .int .i64 tn, .string ts, .slice ta tl.length tc] 25)) (q := NewBut (w1.heap.size + 1) ov (wr.alloc (.cells #[.int .i64 tk, .int .i64 tn, .string ts, .slice ta tl.length tc] 25))) (fun g hg => ⟨⟨hg.1, Nat.lt_trans hg.2.1 hs6, hg.2.2⟩, hB6.block g hg.2.1⟩)
        clear i0 i1 i2 i3 i4 i5 i6 i7 hB6 d0 d1 d2 d3 f0 f1 f2 f3 HJ
        generalize (wr.alloc (.cells #[.int .i64 tk, .int .i64 tn, .string ts, .slice ta tl.length tc] 25)) = W6 at *
        have hbmw : bm < w.heap.size := HD.out.lt
        have hbB := Nat.lt_of_lt_of_le hbmw (Nat.le_trans hwr (Nat.le_of_lt hs6))
        have hgl := genL_take l l' ks j hlt hlt'
        have hkeys := genL_keys (l.take j) (l'.take j) ks
        have hzt := sizeL_take j hlt
        have hzl := sizeL_take_le (l := l) (j + 1)
        have hlz := length_le_sizeL l
        have htx := text_sub (k := k) (n := n) (s := s) hlt
        have htx' := text_sub (k := k') (n := n') (s := s') hlt'
        simp only [Tr.size] at hks
        have hcall : ∀ w', Below W6.heap.size W6 w' → Calls Tryd.prog 109 #[.map (some bm), .agg #[.int .i64 tk, .int .i64 tn, .string ts, .slice ta tl.length tc], .agg #[.int .i64 uk, .int .i64 un, .string us, .slice ua ul.length uc]] w' (GenPost l[j] l'[j] (genL (l.take j) (l'.take j) ks).2 bm w') := fun w' hb =>
          HI.out l[j] (List.getElem_mem hlt) l'[j] _ _ _ w' (IsT.map_turned HD.out (grown_trans p7 (grown_b (some bm) hb)) (grown_trans p7 (grown_b (some bm) hb)).size _ _ HHT.out.1) (IsT.map_turned HD.out (grown_trans p7 (grown_b (some bm) hb)) (grown_trans p7 (grown_b (some bm) hb)).size _ _ HHT.out.2)
            (p6.kept (grown_b none hb) (by simp)) (by omega) (by omega) (tab_turned HD.out (grown_trans p7 (grown_b (some bm) hb)) htab)
        have hT1 := (show j < 1000000000 by omega)
        have hgn : (genL (l.take j) (l'.take j) ks).1.length = j := by rw [genL_length _ _ _ (by simp only [List.length_take]; omega), List.length_take]; omega
        generalize genL (l.take j) (l'.take j) ks = G0 at *
        generalize hR : genT l[j] l'[j] G0.2 = R at *
        have hcall' : ∀ w', Below W6.heap.size W6 w' → Calls Tryd.prog 109 #[.map (some bm), .agg #[.int .i64 tk, .int .i64 tn, .string ts, .slice ta tl.length tc], .agg #[.int .i64 uk, .int .i64 un, .string us, .slice ua ul.length uc]] w' (fun e w2 => ∃ v', e = .returned v' ∧ GR bm ov.ownBlock 0 w' w2 ∧ GC W6 bm R.2 ov.ownBlock 1 w2 ∧ IsNewT W6.heap.size R.1 v' w2) := fun w' hb => (hcall w' hb).mono (by
          rintro e w2 ⟨v', rfl, hP, hD, hg⟩
          rw [hR] at hP hD
          exact ⟨v', rfl, hg, GC.turned hb hg hD, Nat.le_trans hb.size hg.size, IsP.map (fun g hg' => ⟨⟨Nat.le_trans hb.size hg'.1, hg'.2⟩, rfl⟩) _ _ hP⟩)
        have hcells : ∀ ph w', GC W6 bm R.2 ov.ownBlock ph w' → w'.cell? ⟨w1.heap.size, 3, none⟩ = some ov ∧ w'.cell? ⟨wr.heap.size, 0, none⟩ = some (.int .i64 tk) ∧ w'.cell? ⟨wr.heap.size, 1, none⟩ = some (.int .i64 tn) ∧ w'.cell? ⟨wr.heap.size, 2, none⟩ = some (.string ts) ∧ w'.cell? ⟨wr.heap.size, 3, none⟩ = some (.slice ta tl.length tc) ∧
            w'.cell? ⟨w.heap.size + 1, 3, none⟩ = some (.slice (some ⟨b', off', none⟩) l'.length c') ∧ w'.cell? ⟨b', off' + j * 4, none⟩ = some (.int .i64 uk) ∧ w'.cell? ⟨b', off' + j * 4 + 1, none⟩ = some (.int .i64 un) ∧ w'.cell? ⟨b', off' + j * 4 + 2, none⟩ = some (.string us) ∧ w'.cell? ⟨b', off' + j * 4 + 3, none⟩ = some (.slice ua ul.length uc) := fun ph w' hC => by
          have hk := hC.kept
          have n1 : ∀ q, q < w1.heap.size + 1 → some q ≠ ov.ownBlock := fun q hq e => by have := (hrow q e.symm).1; omega
          have b1 := hk.box p3 (by omega) (n1 _ (by omega))
          have b2 := hk.box x0 (by omega) (fun e => by have := (hrow _ e.symm).2; omega)
          have b3 := hk.box p1 (by omega) (n1 _ (by omega))
          exact ⟨b1.cell 3, b2.cell 0, b2.cell 1, b2.cell 2, b2.cell 3, b3.cell 3, hk.cell z0 hbm' (n1 b' (by omega)), hk.cell z1 hbm' (n1 b' (by omega)), hk.cell z2 hbm' (n1 b' (by omega)), hk.cell z3 hbm' (n1 b' (by omega))⟩
        have HC := Lib.hid hcells
        have HCALL := Lib.hid hcall'
        have HP := Lib.hid (And.intro p0 (And.intro p1 (And.intro p2 (And.intro p3 (And.intro p4 (And.intro p5 (And.intro p6 p7)))))))
        have HGL := Lib.hid (And.intro hgl hgn)
        have HROW := Lib.hid hrow
        clear hcells hcall hcall' p0 p1 p2 p3 p4 p5 p6 p7 x0 z0 z1 z2 z3 hgl hgn hrow hkeys hzt hzl hlz htx htx' hR HHT hks hlen
        refine wpIn_region_phases 13 9 11 [.det (.pointer (some ⟨w1.heap.size, 3, none⟩)), .det ov, .det (.map (some bm)), .det (.agg #[.int .i64 tk, .int .i64 tn, .string ts, .slice ta tl.length tc]), .det (.pointer (some ⟨w.heap.size + 1, 3, none⟩)), .det (.slice (some ⟨b', off', none⟩) l'.length c'), .det (.int .i64 j), .det (.pointer (some ⟨b', off' + j * 4, none⟩)), .det (.agg #[.int .i64 uk, .int .i64 un, .string us, .slice ua ul.length uc]), .any (IsNewT W6.heap.size R.1), .any (IsNewS W6.heap.size R.1), .any (IsRowT (w1.heap.size + 1) W6.heap.size ov.ownBlock j xs R.1), .det (.pointer (some ⟨w1.heap.size, 3, none⟩))]
          (GR bm ov.ownBlock) (GC W6 bm R.2 ov.ownBlock) hf hd (fun k f args w R h => callsIn_of_calls hF h) (by kernel_rfl) (by kernel_rfl) (by omega) (by omega) (by kernel_rfl) (gen_hys _ _ _ _ _ _ _ _ _ _ _ _ _ _ _ _ _ hbB (fun k hk => by have := (HROW.out k hk).2; omega)) (GC.start _ _ _ _) ?_
        simp only [List.take_succ_cons, List.take_zero, List.drop_succ_cons, List.drop_zero]
        iterate 9 (
          refine wpR_step (fun K hK => ?_)
          go_simp
          apply And.intro
          · rw [yieldsR, if_neg (by decide), if_neg (by decide)]
            intro ph w' hC _
            obtain ⟨q1, q2, q3, q4, q5, q6, q7, q8, q9, q10⟩ := HC.out ph w' hC
            have Hq := Lib.hid hC
            clear hC
            go_simp
            exact ⟨GR.refl _ _ _ _, Hq.out⟩
          refine nextM_det (hK _ _ ?_)
          clear hK K)
        refine wpR_step (fun K hK => ?_)
        go_simp
        apply And.intro
        · rw [yieldsR, if_pos rfl]
          intro w' hC _
          have Hq := Lib.hid hC
          clear hC
          go_simp
          exact HCALL.out w' Hq.out
        refine nextM_any (fun tv => hK _ _ ?_)
        clear hK K
        refine wpR_step (fun K hK => ?_)
        go_simp
        apply And.intro
        · rw [yieldsR, if_neg (by decide), if_neg (by decide)]
          intro ph w' hC hd'
          have hu : IsNewT W6.heap.size R.1 tv w' := hd' ⟨9, .data⟩ (by simp) rfl tv rfl
          obtain ⟨rk, rn, rs, ra, rm, rc, e⟩ := hu.2.form
          subst e
          have Hq := Lib.hid (And.intro hC hu)
          clear hC hd' hu
          go_simp
          exact ⟨GR.alloc _ _ _ _ _, Hq.out.1.alloc _, w'.heap.size, _, _, _, _, rfl, Hq.out.2.1, Box.at rfl, IsNewT.stable _ _ bm ov.ownBlock hbB (fun k hk => by have := (HROW.out k hk).2; omega) ph _ _ _ (GR.alloc _ _ _ _ _) Hq.out.2⟩
        refine nextM_any (fun xv => hK _ _ ?_)
        clear hK K
        refine wpR_step (fun K hK => ?_)
        go_simp
        apply And.intro
        · rw [yieldsR, if_neg (by decide), if_pos rfl]
          intro w' hC hd'
          have hx : IsNewS W6.heap.size R.1 xv w' := hd' ⟨10, .data⟩ (by simp) rfl xv rfl
          obtain ⟨v2, w2, hr, h1, h2, h3⟩ := row_append W6 w' bm (w1.heap.size + 1) R.2 ov j xs R.1 xv hC HP.out.2.2.2.2.1 (fun e => by have := (HROW.out _ e).1; omega) hx hT1 (by omega)
          exact uponP_append _ (.tmp 39) (.tmp 48) 22 rfl rfl rfl hr ⟨h1, h2, h3⟩
        refine nextM_any (fun rv => hK _ _ ?_)
        clear hK K
        refine wpR_step (fun K hK => ?_)
        go_simp
        apply And.intro
        · rw [yieldsR, if_neg (by decide), if_neg (by decide)]
          intro ph w' hC _
          have Hq := Lib.hid hC
          clear hC
          go_simp
          exact ⟨GR.refl _ _ _ _, Hq.out⟩
        refine nextM_det (hK _ _ ?_)
        clear hK K
        refine wpR_nil ?_
        intro w3 hC hE
        have hv : IsRowT (w1.heap.size + 1) W6.heap.size ov.ownBlock j xs R.1 rv w3 := hE 11 rv rfl
        clear hE
        obtain ⟨i0, i1, i2, i3, i4, i5, i6, i7⟩ := HP.out
        have hk := hC.kept
        have n1 : ∀ q, q < w1.heap.size + 1 → some q ≠ ov.ownBlock := fun q hq e => by have := (HROW.out q e.symm).1; omega
        have b0 := hk.box i0 (by omega) (n1 _ (by omega))
        have b1 := hk.box i1 (by omega) (n1 _ (by omega))
        have b2 := hk.box i2 (by omega) (n1 _ (by omega))
        have b3 := hk.box i3 (by omega) (n1 _ (by omega))
        have r3 := b3.cell 3
        have r4 := b3.frozen 3
        have r5 := b3.lt
        simp only [List.getElem?_toArray, List.getElem?_cons_succ, List.getElem?_cons_zero] at r3
        obtain ⟨v0, v1, v2, v3, hown, hPn, hwhere⟩ := hv
        have hne3 : ∀ q, rv.ownBlock = some q → w1.heap.size + 1 ≤ q := fun q hq => (hown.lt q hq).1
        have hb3 : ∀ q, q ≠ w1.heap.size → (w3.setCell ⟨w1.heap.size, 3, none⟩ rv).heap[q]? = w3.heap[q]? := fun q hq => Below.heap_setCell w3 ⟨w1.heap.size, 3, none⟩ rv q hq
        have hs3 : (w3.setCell ⟨w1.heap.size, 3, none⟩ rv).heap.size = w3.heap.size := by simp
        have hk36 := hk.size
        have HF : Hid (GenInv w.heap.size w1.heap.size bm k n s #[.int .i64 k, .int .i64 n, .string s, .slice (some ⟨b, off, none⟩) l.length c] #[.int .i64 k', .int .i64 n', .string s', .slice (some ⟨b', off', none⟩) l'.length c'] l l' ks w (j + 1) (w3.setCell ⟨w1.heap.size, 3, none⟩ rv)) := by
          refine ⟨rv, xs ++ [v0, v1, v2, v3], b0.other (by omega) _ _, b1.other (by omega) _ _, b2.other (by omega) _ _, by simpa using b3.set 3 rv, hown.kept (grown_set w1.heap.size 3 w3 rv) ?_, ?_, ?_, ?_⟩
          · rcases h : rv.ownBlock with _ | q
            · exact .inl rfl
            · exact .inr (fun e => by cases e; have := hne3 _ h; omega)
          · rw [HGL.out.1]
            refine LaidR.snoc (i5.map fun q hq => ⟨⟨hq.1, by rw [hs3]; have := hq.2.1; omega, fun e => ?_⟩, (hb3 q (by have := hq.1; omega)).trans (hk.block q hq.2.1 (by have := hq.1; omega) hq.2.2)⟩) (by rw [HGL.out.2]; exact i4.1) (IsP.map (fun q hq => ⟨⟨by have := hq.1; omega, by rw [hs3]; exact hq.2.1, hq.2.2⟩, hb3 q (by have := hq.1; omega)⟩) _ _ hPn)
            rcases hwhere q e.symm with h | h
            · exact hq.2.2 h.symm
            · have := hq.2.1; omega
          · rw [HGL.out.1]
            exact hC.2.set _ _ _ (by omega)
          · exact ⟨(grown_set w1.heap.size 3 w3 rv).os.trans (hk.os.trans i7.os), (grown_set w1.heap.size 3 w3 rv).tape.trans (hk.tape.trans i7.tape), (grown_set w1.heap.size 3 w3 rv).output.trans (hk.output.trans i7.output), by rw [hs3]; have := i7.size; omega,
              fun q hq hne => (hb3 q (by omega)).trans ((hk.block q (by have := i7.size; omega) (by simpa using hne) (n1 _ (by omega))).trans (i7.block q hq hne))⟩
        obtain ⟨rg, rcap, hrv⟩ := ownsRow_succ hown
        subst hrv
        clear hown hPn hwhere hb3 hs3 hk36
        clear i0 i1 i2 i3 i4 i5 i6 i7 hk n1 b0 b1 b2 b3 hC hne3
        gi_wp2_with fail
        go_roundw
        case rel => exact ⟨j + 1, hlt, by go_num, HF.out⟩
        case measure => simp [intOf]; omega
      · obtain ⟨ov, xs, i0, i1, i2, i3, i4, i5, i6, i7⟩ := hinv
        have hjl : j = l.length := by omega
        rw [List.take_of_length_le (show l.length ≤ j by omega), List.take_of_length_le (show l'.length ≤ j by rw [← Hll.out]; omega)] at i5 i6
        have hgn := genL_length l l' ks Hll.out
        rw [hjl, ← hgn] at i4
        obtain ⟨oa, oc, e, h6, h7, hP⟩ := LaidR.done i5 i4
        subst e
        generalize genL l l' ks = G0 at *
        have r0 := i3.cell 0
        have r1 := i3.cell 1
        have r2 := i3.cell 2
        have r3 := i3.cell 3
        have u0 := i2.cell 0
        have u1 := i2.cell 1
        have u2 := i2.cell 2
        have u3 := i2.cell 3
        have g0 := i2.frozen 0
        have g1 := i2.frozen 1
        have g2 := i2.frozen 2
        have g3 := i2.frozen 3
        have l2 := i2.lt
        have l3 := i3.lt
        simp only [List.getElem?_toArray, List.getElem?_cons_succ, List.getElem?_cons_zero] at r0 r1 r2 r3 u0 u1 u2 u3
        have hbmw : bm < w.heap.size := HD.out.lt
        have HJ := Lib.hid (And.intro i2 (And.intro i6 (And.intro i7 (And.intro h6 (And.intro h7 hP)))))
        clear i0 i1 i2 i3 i4 i5 i6 i7 h6 h7 hP hgn hjl
        gi_wp2_with fail
        obtain ⟨i2, i6, i7, h6, h7, hP⟩ := HJ.out
        have z := (((i2.set 0 (.int .i64 k)).set 1 (.int .i64 n)).set 2 (.string s)).set 3 (.slice oa G0.1.length oc)
        have y0 := z.cell 0
        have y1 := z.cell 1
        have y2 := z.cell 2
        have y3 := z.cell 3
        have zB := ((((Below.refl w.heap.size wr).setCell (p := ⟨w.heap.size + 1 + 1, 0, none⟩) (by simp; omega) (.int .i64 k)).setCell (p := ⟨w.heap.size + 1 + 1, 1, none⟩) (by simp; omega) (.int .i64 n)).setCell (p := ⟨w.heap.size + 1 + 1, 2, none⟩) (by simp; omega) (.string s)).setCell (p := ⟨w.heap.size + 1 + 1, 3, none⟩) (by simp; omega) (.slice oa G0.1.length oc)
        have zG := grown_below2 i7 zB
        have zD := (((i6.set (w.heap.size + 1 + 1) 0 (.int .i64 k) (by omega)).set (w.heap.size + 1 + 1) 1 (.int .i64 n) (by omega)).set (w.heap.size + 1 + 1) 2 (.string s) (by omega)).set (w.heap.size + 1 + 1) 3 (.slice oa G0.1.length oc) (by omega)
        have zP := IsPL.map (q := New w.heap.size ((((wr.setCell ⟨w.heap.size + 1 + 1, 0, none⟩ (.int .i64 k)).setCell ⟨w.heap.size + 1 + 1, 1, none⟩ (.int .i64 n)).setCell ⟨w.heap.size + 1 + 1, 2, none⟩ (.string s)).setCell ⟨w.heap.size + 1 + 1, 3, none⟩ (.slice oa G0.1.length oc))) (B := ((((wr.setCell ⟨w.heap.size + 1 + 1, 0, none⟩ (.int .i64 k)).setCell ⟨w.heap.size + 1 + 1, 1, none⟩ (.int .i64 n)).setCell ⟨w.heap.size + 1 + 1, 2, none⟩ (.string s)).setCell ⟨w.heap.size + 1 + 1, 3, none⟩ (.slice oa G0.1.length oc)))
          (fun b hb => by
            obtain ⟨hb1, hb2⟩ := hb
            refine ⟨⟨by omega, by simpa using hb2⟩, ?_⟩
            rw [Below.heap_setCell _ _ _ _ (by simp; omega), Below.heap_setCell _ _ _ _ (by simp; omega), Below.heap_setCell _ _ _ _ (by simp; omega), Below.heap_setCell _ _ _ _ (by simp; omega)]) G0.1 oa hP
        clear z zB i2 i6 i7 hP
        generalize ((((wr.setCell ⟨w.heap.size + 1 + 1, 0, none⟩ (.int .i64 k)).setCell ⟨w.heap.size + 1 + 1, 1, none⟩ (.int .i64 n)).setCell ⟨w.heap.size + 1 + 1, 2, none⟩ (.string s)).setCell ⟨w.heap.size + 1 + 1, 3, none⟩ (.slice oa G0.1.length oc)) = FW at *
        simp at y0 y1 y2 y3
        refine bodyPost_ret (v := .agg #[.int .i64 k, .int .i64 n, .string s, .slice oa G0.1.length oc]) (by simp [results, Tryd.results109, go_sem, y0, y1, y2, y3]) rfl ⟨_, rfl, ?_, ?_, zG⟩
        · rw [HG.out]
          exact IsP.mk hok1 hok2 hok3 h6 h7 zP
        · rw [HG.out]
          exact zD
end Go.Proofs.YtckoecmdaefoiaaDoor
