import Derived.Test.YtdigiaigbcfccaaGreatDoorApply
namespace Go.Proofs.YtdigiaigbcfccaaGreatDoor
open Go.RowKit Go

theorem subL_take (l ts : List Tr) (i : Nat) (h : i < ts.length) : subL l (ts.take (i + 1)) = subL l (ts.take i) ++ [subT l ts[i]] := by
  rw [subL_map, subL_map, List.take_succ_eq_append_getElem h, List.map_append]; rfl
theorem deepL_append (l l' : List Tr) : deepL (l ++ l') = max (deepL l) (deepL l') := by
  induction l with
  | nil => simp [deepL]
  | cons t ts ih => simp only [List.cons_append, deepL, ih]; omega
theorem sizeL_sub_take (l ts : List Tr) (i : Nat) (h : i < ts.length) : sizeL (subL l (ts.take (i + 1))) = sizeL (subL l (ts.take i)) + (subT l ts[i]).size := by
  rw [subL_take l ts i h, sizeL_append]; simp [sizeL]
theorem deepL_sub_take (l ts : List Tr) (i : Nat) (h : i < ts.length) : deepL (subL l (ts.take (i + 1))) = max (deepL (subL l (ts.take i))) (subT l ts[i]).deep := by
  rw [subL_take l ts i h, deepL_append]; simp [deepL]
theorem sizeL_sub_le (l ts : List Tr) (i : Nat) (h : i < ts.length) : sizeL (subL l (ts.take i)) + (subT l ts[i]).size ≤ sizeL (subL l ts) := by
  rw [← sizeL_sub_take l ts i h, subL_map, subL_map]
  have : (ts.take (i + 1)).map (subT l) = (ts.map (subT l)).take (i + 1) := by rw [List.map_take]
  rw [this]
  exact sizeL_take_le _
mutual
theorem deep_le_size : ∀ T : Tr, T.deep ≤ T.size
  | .node _ _ _ l => by simp [Tr.deep, Tr.size, deepL_le_sizeL l]
theorem deepL_le_sizeL : ∀ l : List Tr, deepL l ≤ sizeL l
  | [] => by simp [deepL, sizeL]
  | t :: ts => by have := deep_le_size t; have := deepL_le_sizeL ts; simp [deepL, sizeL]; omega
end

set_option maxRecDepth 100000 in
set_option maxHeartbeats 2000000 in
theorem extentOf_any (l : List Tr) (hm : l.length ≤ 1000000) (a : Option Addr) (c : Nat) (eb : Nat) (cs : Array Value) (hex : Exts cs l) (w₀ : World) (hl : IsL w₀.heap.size w₀ l a) (heb : eb < w₀.heap.size) (hbx : Box w₀ eb cs 92) (T : Tr) :
    ∀ (v : Value) (w : World), Below w₀.heap.size w₀ w → IsT w.heap.size w T v → (subT l T).size ≤ 1000000000000 → posT T →
    Calls Tryz.prog 49 #[.agg #[.slice a l.length c, .slice (some ⟨eb, 0, none⟩) l.length l.length], v] w fun e w' => e = .returned (.agg #[.int .i64 (subT l T).size, .int .i64 (subT l T).deep]) ∧ Below w.heap.size w w' := by
  induction T using Tr.ind with
  | h k n s ts ih =>
    intro v w hW hT hTs hpos
    obtain ⟨a', c', rfl, _, _, _, h4, h5, hts⟩ := hT.open
    unfold posT at hpos
    have HI := Lib.hid ih
    have HL := hl.up hW hW.size
    have HE := Lib.hid hex
    clear ih
    unfold maxLen at h5
    have hb0 : Box (((w.alloc (.cells #[.slice a l.length c, .slice (some ⟨eb, 0, none⟩) l.length l.length] 88)).alloc (.cells #[.int .i64 k, .int .i64 n, .string s, .slice a' ts.length c'] 24)).alloc (.cells #[.int .i64 0, .int .i64 0] 92)) w.heap.size #[.slice a l.length c, .slice (some ⟨eb, 0, none⟩) l.length l.length] 88 := ((Box.at rfl).alloc _).alloc _
    have hb1 : Box (((w.alloc (.cells #[.slice a l.length c, .slice (some ⟨eb, 0, none⟩) l.length l.length] 88)).alloc (.cells #[.int .i64 k, .int .i64 n, .string s, .slice a' ts.length c'] 24)).alloc (.cells #[.int .i64 0, .int .i64 0] 92)) (w.heap.size + 1) #[.int .i64 k, .int .i64 n, .string s, .slice a' ts.length c'] 24 := (Box.at (by simp)).alloc _
    have hb2 : Box (((w.alloc (.cells #[.slice a l.length c, .slice (some ⟨eb, 0, none⟩) l.length l.length] 88)).alloc (.cells #[.int .i64 k, .int .i64 n, .string s, .slice a' ts.length c'] 24)).alloc (.cells #[.int .i64 0, .int .i64 0] 92)) (w.heap.size + 1 + 1) #[.int .i64 0, .int .i64 0] 92 := Box.at (by simp)
    have hB0 := below_a3 (Nat.le_refl w.heap.size) (.cells #[.slice a l.length c, .slice (some ⟨eb, 0, none⟩) l.length l.length] 88) (.cells #[.int .i64 k, .int .i64 n, .string s, .slice a' ts.length c'] 24) (.cells #[.int .i64 0, .int .i64 0] 92)
    go_enter Tryz.func49, Tryz.ntmps49
    go_wp2_with fail
    refine (puts_any l a c _ ⟨_, _, _, rfl⟩ k n s ts.length a' c' _ hm (HL.up hB0 hB0.size) hpos.1).mono ?_
    rintro e w1 ⟨rfl, hB1⟩
    have p0 := Box.keep hB1 hb0
    have p1 := Box.keep hB1 hb1
    have p2 := Box.keep hB1 hb2
    have hB2 := hB0.trans (hB1.mono hB0.size)
    have hs1 := hB1.size
    simp only [World.size_alloc] at hs1
    have pe : Box w1 eb cs 92 := (hB2.block eb (by have := hW.size; omega)).trans ((hW.block eb heb).trans hbx)
    clear hB1 hb0 hb1 hb2 hB0
    have l0 := p0.lt
    have l1 := p1.lt
    have l2 := p2.lt
    have q0 := p0.cell 0
    have q1 := p0.cell 1
    have r1 := p1.cell 1
    have r3 := p1.cell 3
    have u0 := p2.cell 0
    have u1 := p2.cell 1
    have g0 := p2.frozen 0
    have g1 := p2.frozen 1
    simp only [List.getElem?_toArray, List.getElem?_cons_succ, List.getElem?_cons_zero] at q0 q1 r1 r3 u0 u1
    cases hpb : putsB l k n with
    | true =>
      have hk : (k = 1 ∧ n < l.length) ∧ ¬ (l.getD n.toNat default).kind = 0 := by simp [putsB] at hpb; exact ⟨⟨hpb.1.1, hpb.1.2⟩, by simpa using hpb.2⟩
      obtain ⟨⟨rfl, hnl⟩, hkd⟩ := hk
      obtain ⟨j, rfl⟩ := Int.eq_ofNat_of_zero_le (hpos.1 rfl)
      have hj : j < l.length := by omega
      have hS : Hid (subT l (.node 1 j s ts) = l[j]) := by
        simp [Hid, subT, hpb, List.getElem?_eq_getElem hj]
      have hfr : l[j].free = false := by
        have e : l.getD (↑j : Int).toNat default = l[j] := by simp [List.getElem?_eq_getElem hj]
        rw [e] at hkd
        cases hl' : l[j] with
        | node k' n' s' ts' =>
          rw [hl'] at hkd
          simp [Tr.kind] at hkd
          simp [Tr.free, freeB, hkd]
      have e0 := (HE.out j hj).1
      have e1 := (HE.out j hj).2
      simp only [exN, exD, hfr] at e0 e1
      have x0 := (pe.cell (j * 2)).trans e0
      have x1 := (pe.cell (j * 2 + 1)).trans e1
      have hbw := pe.lt
      simp only [Bool.false_eq_true, if_false] at x0 x1
      clear hpb hkd hpos hfr e0 e1
      go_wp2_with fail
      have z := (p2.set 0 (.int .i64 l[j].size)).set 1 (.int .i64 l[j].deep)
      have zB := (hB2.setCell (p := ⟨w.heap.size + 1 + 1, 0, none⟩) (by simp; omega) (.int .i64 l[j].size)).setCell (p := ⟨w.heap.size + 1 + 1, 1, none⟩) (by simp; omega) (.int .i64 l[j].deep)
      have y0 := z.cell 0
      have y1 := z.cell 1
      clear z
      generalize (w1.setCell ⟨w.heap.size + 1 + 1, 0, none⟩ (.int .i64 l[j].size)).setCell ⟨w.heap.size + 1 + 1, 1, none⟩ (.int .i64 l[j].deep) = FW at *
      simp at y0 y1
      exact bodyPost_ret (v := .agg #[.int .i64 l[j].size, .int .i64 l[j].deep]) (by simp [results, Tryz.results49, go_sem, y0, y1]) rfl ⟨by rw [hS.out], zB⟩
    | false =>
      have hS : Hid (subT l (.node k n s ts) = .node k n s (subL l ts)) := by simp [Hid, subT, hpb]
      have hbig : 1 + sizeL (subL l ts) ≤ 1000000000000 := by rw [hS.out] at hTs; simpa [Tr.size] using hTs
      have hX : Hid (w₀.heap.size ≤ w1.heap.size) := by have := hW.size; unfold Hid; omega
      clear hpb hTs
      go_wp2_with fail
      have hb3 : Box (w1.alloc (.cells #[.int .i64 1, .int .i64 0] 92)) w1.heap.size #[.int .i64 1, .int .i64 0] 92 := Box.at rfl
      have t0 := p0.alloc (.cells #[.int .i64 1, .int .i64 0] 92)
      have t1 := p1.alloc (.cells #[.int .i64 1, .int .i64 0] 92)
      have t2 := p2.alloc (.cells #[.int .i64 1, .int .i64 0] 92)
      have tB := hB2.alloc hB2.size (.cells #[.int .i64 1, .int .i64 0] 92)
      clear p0 p1 p2 pe q0 q1 r1 r3 u0 u1 g0 g1 hX
      generalize w1.alloc (.cells #[.int .i64 1, .int .i64 0] 92) = W1 at *
      generalize w1.heap.size = Bz at *
      by_cases h0 : 0 < ts.length
      · obtain ⟨b, off, rfl, hb⟩ := hts.addr h0
        go_loopw [22] (fun i wr => ∃ j : Nat, j ≤ ts.length ∧ i = .int .i64 j ∧ Box wr Bz #[.int .i64 (1 + sizeL (subL l (ts.take j)) : Nat), .int .i64 (deepL (subL l (ts.take j)))] 92 ∧
          Box wr w.heap.size #[.slice a l.length c, .slice (some ⟨eb, 0, none⟩) l.length l.length] 88 ∧ Box wr (w.heap.size + 1 + 1) #[.int .i64 0, .int .i64 0] 92 ∧ Below w.heap.size w wr) (fun i _ => ts.length - (intOf i).toNat)
        case atStart => exact ⟨0, Nat.zero_le _, rfl, by simpa [subL, sizeL, deepL] using hb3, t0, t2, tB⟩
        case round =>
          obtain ⟨j, hj, rfl, b3, b0, b2, hB⟩ := hrel
          have hs1 := b0.lt
          have hs2 := b2.lt
          have hs3 := b3.lt
          have z0 := b0.cell 0
          have z1 := b0.cell 1
          have c30 := b3.cell 0
          have c31 := b3.cell 1
          have f30 := b3.frozen 0
          have f31 := b3.frozen 1
          simp only [List.getElem?_toArray, List.getElem?_cons_succ, List.getElem?_cons_zero] at z0 z1 c30 c31
          by_cases hlt : j < ts.length
          · obtain ⟨tk, tn, tss, tl, ta, tc, te, c0, c1, c2, c3, ht⟩ := hts.node' hb hB j hlt
            have hbw : b < wr.heap.size := by have := hB.size; omega
            have hle := sizeL_sub_le l ts j hlt
            have hdl := deepL_le_sizeL (subL l (ts.take j))
            have hdt := deep_le_size (subT l ts[j])
            have Hsz := Lib.hid (sizeL_sub_take l ts j hlt)
            have Hdp := Lib.hid (deepL_sub_take l ts j hlt)
            have Te := Lib.hid te
            clear te
            go_wp2_with fail
            refine (HI.out _ (List.getElem_mem hlt) _ _ (hW.trans ((hB.trans (below_a1 hB.size _)).mono hW.size)) ((ht.below hB).up (below_a1 hB.size _) (size_a1 hB.size _)) (by omega) (posL_mem hpos.2 (List.getElem_mem hlt))).mono ?_
            rintro e w2 ⟨rfl, hB1⟩
            have n3 := Box.keep hB1 (b3.alloc _)
            have n0 := Box.keep hB1 (b0.alloc _)
            have n2 := Box.keep hB1 (b2.alloc _)
            have hB5 := (hB.trans (below_a1 hB.size (.cells #[.int .i64 tk, .int .i64 tn, .string tss, .slice ta tl.length tc] 24))).trans (hB1.mono (size_a1 hB.size _))
            have hs4 := hB1.size
            simp only [World.size_alloc] at hs4
            have m3 := n3.lt
            have d0 := n3.cell 0
            have d1 := n3.cell 1
            have e0 := n3.frozen 0
            have e1 := n3.frozen 1
            simp only [List.getElem?_toArray, List.getElem?_cons_succ, List.getElem?_cons_zero] at d0 d1
            clear hB1 b3 b0 b2 z0 z1 c30 c31 f30 f31 c0 c1 c2 c3
            by_cases hmx : deepL (subL l (ts.take j)) < (subT l ts[j]).deep
            · go_wp2_with fail
              go_roundw
              case rel =>
                have ex : ((1 + (sizeL (subL l (ts.take j)) + (subT l ts[j]).size) : Nat) : Int) = ((1 + sizeL (subL l (ts.take j)) : Nat) : Int) + ((subT l ts[j]).size : Nat) := by omega
                have ed : max (deepL (subL l (ts.take j))) (subT l ts[j]).deep = (subT l ts[j]).deep := by omega
                refine ⟨j + 1, hlt, by go_num, ?_, ((n0.other (by omega) 0 _).other (by omega) 1 _).alloc _, ((n2.other (by omega) 0 _).other (by omega) 1 _).alloc _, ((hB5.setCell (p := ⟨Bz, 0, none⟩) (by simp; omega) _).setCell (p := ⟨Bz, 1, none⟩) (by simp; omega) _).alloc (by simp; omega) _⟩
                rw [Hsz.out, Hdp.out, ex, ed]
                exact ((n3.set 0 _).set 1 _).alloc _
              case measure => simp [intOf]; omega
            · go_wp2_with fail
              go_roundw
              case rel =>
                have ex : ((1 + (sizeL (subL l (ts.take j)) + (subT l ts[j]).size) : Nat) : Int) = ((1 + sizeL (subL l (ts.take j)) : Nat) : Int) + ((subT l ts[j]).size : Nat) := by omega
                have ed : max (deepL (subL l (ts.take j))) (subT l ts[j]).deep = deepL (subL l (ts.take j)) := by omega
                refine ⟨j + 1, hlt, by go_num, ?_, ((n0.other (by omega) 0 _).other (by omega) 1 _).alloc _, ((n2.other (by omega) 0 _).other (by omega) 1 _).alloc _, ((hB5.setCell (p := ⟨Bz, 0, none⟩) (by simp; omega) _).setCell (p := ⟨Bz, 1, none⟩) (by simp; omega) _).alloc (by simp; omega) _⟩
                rw [Hsz.out, Hdp.out, ex, ed]
                exact ((n3.set 0 _).set 1 _).alloc _
              case measure => simp [intOf]; omega
          · have e : ts.take j = ts := List.take_of_length_le (by omega)
            rw [e] at b3 c30 c31
            have hdl := deepL_le_sizeL (subL l ts)
            clear e
            have c20 := b2.cell 0
            have c21 := b2.cell 1
            have g20 := b2.frozen 0
            have g21 := b2.frozen 1
            simp only [List.getElem?_toArray, List.getElem?_cons_succ, List.getElem?_cons_zero] at c20 c21
            go_wp2_with fail
            have z := ((b2.other (B' := Bz) (by omega) 1 (.int .i64 ((deepL (subL l ts) : Nat) + 1))).set 0 (.int .i64 (1 + ((sizeL (subL l ts) : Nat) : Int)))).set 1 (.int .i64 ((deepL (subL l ts) : Nat) + 1))
            have zB := ((hB.setCell (p := ⟨Bz, 1, none⟩) (by simp; omega) (.int .i64 ((deepL (subL l ts) : Nat) + 1))).setCell (p := ⟨w.heap.size + 1 + 1, 0, none⟩) (by simp; omega) (.int .i64 (1 + ((sizeL (subL l ts) : Nat) : Int)))).setCell (p := ⟨w.heap.size + 1 + 1, 1, none⟩) (by simp; omega) (.int .i64 ((deepL (subL l ts) : Nat) + 1))
            have y0 := z.cell 0
            have y1 := z.cell 1
            clear z b3 b0 b2
            generalize ((wr.setCell ⟨Bz, 1, none⟩ (.int .i64 ((deepL (subL l ts) : Nat) + 1))).setCell ⟨w.heap.size + 1 + 1, 0, none⟩ (.int .i64 (1 + ((sizeL (subL l ts) : Nat) : Int)))).setCell ⟨w.heap.size + 1 + 1, 1, none⟩ (.int .i64 ((deepL (subL l ts) : Nat) + 1)) = FW at *
            simp at y0 y1
            refine bodyPost_ret (v := .agg #[.int .i64 (1 + ((sizeL (subL l ts) : Nat) : Int)), .int .i64 ((deepL (subL l ts) : Nat) + 1)]) (by simp [results, Tryz.results49, go_sem, y0, y1]) rfl ⟨?_, zB⟩
            rw [hS.out]
            simp only [Tr.size, Tr.deep]
            rw [show ((1 + deepL (subL l ts) : Nat) : Int) = (deepL (subL l ts) : Nat) + 1 from by omega, show ((1 + sizeL (subL l ts) : Nat) : Int) = 1 + ((sizeL (subL l ts) : Nat) : Int) from by omega]
      · have e1 : ts = [] := List.length_eq_zero_iff.1 (by omega)
        subst e1
        have b3 : Box W1 Bz #[.int .i64 (1 + sizeL (subL l []) : Nat), .int .i64 (deepL (subL l []))] 92 := by simpa [subL, sizeL, deepL] using hb3
        have b2 := t2
        have hs2 := b2.lt
        have hs3 := b3.lt
        have hdl := deepL_le_sizeL (subL l [])
        have c30 := b3.cell 0
        have c31 := b3.cell 1
        have f30 := b3.frozen 0
        have f31 := b3.frozen 1
        simp only [List.getElem?_toArray, List.getElem?_cons_succ, List.getElem?_cons_zero] at c30 c31
        clear h0
        simp only [List.length_nil]
        refine wp_loop_rounds 1 ?_
        rw [rounds_succ]
        have c20 := b2.cell 0
        have c21 := b2.cell 1
        have g20 := b2.frozen 0
        have g21 := b2.frozen 1
        simp only [List.getElem?_toArray, List.getElem?_cons_succ, List.getElem?_cons_zero] at c20 c21
        go_wp2_with fail
        have z := ((b2.other (B' := Bz) (by omega) 1 (.int .i64 ((deepL (subL l []) : Nat) + 1))).set 0 (.int .i64 (1 + ((sizeL (subL l []) : Nat) : Int)))).set 1 (.int .i64 ((deepL (subL l []) : Nat) + 1))
        have zB := ((tB.setCell (p := ⟨Bz, 1, none⟩) (by simp; omega) (.int .i64 ((deepL (subL l []) : Nat) + 1))).setCell (p := ⟨w.heap.size + 1 + 1, 0, none⟩) (by simp; omega) (.int .i64 (1 + ((sizeL (subL l []) : Nat) : Int)))).setCell (p := ⟨w.heap.size + 1 + 1, 1, none⟩) (by simp; omega) (.int .i64 ((deepL (subL l []) : Nat) + 1))
        have y0 := z.cell 0
        have y1 := z.cell 1
        clear z b3 hb3 t0 t1 b2
        generalize ((W1.setCell ⟨Bz, 1, none⟩ (.int .i64 ((deepL (subL l []) : Nat) + 1))).setCell ⟨w.heap.size + 1 + 1, 0, none⟩ (.int .i64 (1 + ((sizeL (subL l []) : Nat) : Int)))).setCell ⟨w.heap.size + 1 + 1, 1, none⟩ (.int .i64 ((deepL (subL l []) : Nat) + 1)) = FW at *
        simp at y0 y1
        refine bodyPost_ret (v := .agg #[.int .i64 (1 + ((sizeL (subL l []) : Nat) : Int)), .int .i64 ((deepL (subL l []) : Nat) + 1)]) (by simp [results, Tryz.results49, go_sem, y0, y1]) rfl ⟨?_, zB⟩
        rw [hS.out]
        simp only [Tr.size, Tr.deep]
        rw [show ((1 + deepL (subL l []) : Nat) : Int) = (deepL (subL l []) : Nat) + 1 from by omega, show ((1 + sizeL (subL l []) : Nat) : Int) = 1 + ((sizeL (subL l []) : Nat) : Int) from by omega]

end Go.Proofs.YtdigiaigbcfccaaGreatDoor
