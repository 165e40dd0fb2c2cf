/- The parser's term. -/
import Derived.Sort.CutIn
import Derived.Test.YthfciekhmbfmfaaGreatDoorParO
namespace Go.Proofs.YthfciekhmbfmfaaGreatDoor
open Go.RowKit Go Go.Maps

attribute [local go_sem] Oper.semAt_some Pan.uponX Yld.says monoUpon

theorem inf_range (name : List UInt8) : 0 ≤ (infV (nm name)).2.2 ∧ (infV (nm name)).2.2 ≤ 10000 := by
  unfold infV tabF
  by_cases h : ∃ x, (opsI.reverse.find? fun x => x.1.data.toList == (nm name).data.toList) = some x
  · obtain ⟨x, hx⟩ := h
    rw [hx]
    have hm := List.mem_of_find?_eq_some hx
    have hall : (opsI.reverse.all fun x => decide (0 ≤ x.2.2.2) && decide (x.2.2.2 ≤ 10000)) = true := by decide +kernel
    have := List.all_eq_true.1 hall x hm
    simpa using this
  · have hn : (opsI.reverse.find? fun x => x.1.data.toList == (nm name).data.toList) = none := by
      cases hf : (opsI.reverse.find? fun x => x.1.data.toList == (nm name).data.toList) with
      | none => rfl
      | some x => exact absurd ⟨x, hf⟩ h
    rw [hn]
    decide
section
variable {w : World} {B b1 b2 V tot : Nat} {xs : List Lx} {pv nv : Value} {st : PS} {W : World} {n : Nat}
theorem infF_range (i : Nat) : 0 ≤ (infF xs i).2.2.2 ∧ (infF xs i).2.2.2 ≤ 10000 := by
  unfold infF
  split
  · split
    · exact inf_range _
    · exact inf_range _
    · decide
  · decide
theorem infF_name (hx : LxOk tot xs) (i : Nat) : (infF xs i).1.length ≤ 255 := by
  unfold infF
  split
  · rename_i t ht
    have h1 : t.s.length ≤ 255 := by
      rw [tokAt] at ht
      cases hg : xs[i]? with
      | none => rw [hg] at ht; cases ht
      | some x => rw [hg] at ht; cases ht; exact (hx.tok x (List.mem_of_getElem? hg)).1
    split
    · exact h1
    · exact h1
    · decide
  · decide
set_option maxRecDepth 100000 in
set_option maxHeartbeats 32000000 in
theorem term_step (ih : TermOk w B b1 b2 V tot xs pv n) (hx : LxOk tot xs) : TermOk w B b1 b2 V tot xs pv (n + 1) := by
  intro most st nv W hm0 hm1 h hn
  have HX := Lib.hid hx
  have HN : Hid (xs.length < n + (st.i + 1)) := by show xs.length < n + (st.i + 1); omega
  have hl8 := hx.len
  obtain ⟨hne1, hne2⟩ := h.ne
  have hR0 : Box (W.alloc (.cells #[.int .i64 0, .int .i64 0, .string ⟨#[]⟩, .slice none 0 0] 31)) W.heap.size #[.int .i64 0, .int .i64 0, .string ⟨#[]⟩, .slice none 0 0] 31 := World.alloc_heap_new _ _
  have hA := below_a1 (Nat.le_refl W.heap.size) (.cells #[.int .i64 0, .int .i64 0, .string ⟨#[]⟩, .slice none 0 0] 31)
  have h0 := h.up hA
  have hT0 := PaTo.up (B := B) (V := V) (nv := nv) hA
  have hwW := h.below.size
  have hBW := h.box.lt
  have HFI := Lib.hid (first_any ih h0 hx HN.out most)
  have hsz0 : (W.alloc (.cells #[.int .i64 0, .int .i64 0, .string ⟨#[]⟩, .slice none 0 0] 31)).heap.size = W.heap.size + 1 := by simp
  have H0 := Lib.hid (And.intro h0 (And.intro hT0 hR0))
  have HSZ0 := Lib.hid hsz0
  clear h h0 hT0 hR0 hA hn hsz0
  refine (callsIn_wide (n := 9)).1 ?_
  generalize hF : Fence.wide = F
  have hd : F.depth = none := by subst hF; rfl
  have hf : ∀ f, F.fn f := fun f => by subst hF; trivial
  have hro : F.round = none := by subst hF; rfl
  refine callsIn_of_wp Tryz.func110 rfl (hf _) ?_ hro
  simp only [Tryz.ntmps110, List.size_toArray, List.length_cons, List.length_nil, Nat.reduceAdd, Nat.reduceSub, Array.replicate_succ, Array.replicate_zero, List.push_toArray, List.append_toArray, List.nil_append, List.cons_append]
  gi_wp2_with fail
  refine CallsIn.mono (callsIn_of_calls hF HFI.out) ?_
  rintro e w2 hQ2
  cases hr : firstF tot xs (termN tot xs n) most st with
  | error p =>
    rw [hr] at hQ2
    obtain ⟨rfl, hb⟩ := hQ2
    refine And.intro rfl ?_
    rw [termN, hr]
    exact ⟨rfl, hb⟩
  | ok x =>
    obtain ⟨⟨t0, pr0⟩, st2⟩ := x
    rw [hr] at hQ2
    obtain ⟨v2, nv2, rfl, ⟨u2, rfl, ht⟩, h2, hT2, hi3⟩ := hQ2
    have ht : tval (W.alloc (.cells #[.int .i64 0, .int .i64 0, .string ⟨#[]⟩, .slice none 0 0] 31)).heap.size t0 u2 w2 := ht
    rw [HSZ0.out] at ht
    obtain ⟨a0, a1, a2, a3, am, a4, rfl⟩ := IsP.formP ht
    have hR3 := PaTo.box H0.out.1 hT2 H0.out.2.2 (by decide) (by decide)
    have hi3' : st.i + 1 ≤ st2.i := hi3
    have hw2s : W.heap.size + 1 ≤ w2.heap.size := by have := hR3.lt; omega
    have hA2 := below_a1 (Nat.le_refl w2.heap.size) (.cells #[.int .i64 a0, .int .i64 a1, .string a2, .slice a3 am a4] 31)
    have hRt : Box (w2.alloc (.cells #[.int .i64 a0, .int .i64 a1, .string a2, .slice a3 am a4] 31)) w2.heap.size #[.int .i64 a0, .int .i64 a1, .string a2, .slice a3 am a4] 31 := World.alloc_heap_new _ _
    have hRtB : ¬ w2.heap.size = B := by omega
    have ht2 := (xval.of (R := w2.heap.size) ht (fun b _ hb => by omega)).up (TmK.of_below hA2) (Nat.le_refl _)
    have H2 := Lib.hid (And.intro (h2.up hA2) (And.intro ((H0.out.2.1.trans hT2).trans (PaTo.up (B := B) (V := V) (nv := nv2) hA2)) (And.intro (hR3.keep hA2) (And.intro hRt ht2))))
    have HR : Hid (termN tot xs (n + 1) most st = loopF xs (termN tot xs n) most (xs.length + 1 - st2.i) t0 pr0 st2) := by rw [Hid, termN, hr]
    clear h2 hT2 hR3 ht hi3 hr hA2 hRt ht2
    gi_wp2_with fail
    obtain ⟨Rt, hRt⟩ : ∃ Rt, w2.heap.size = Rt := ⟨_, rfl⟩
    rw [hRt] at H2 hRtB ⊢
    have hRW : W.heap.size + 1 ≤ Rt := by omega
    clear hRt hw2s
    have hi2x := H2.out.1.hi
    gi_loopw [6] (fun pv' wr => ∃ (t : Tr) (prio : Int) (st' : PS) (nv' : Value) (k : Nat) (z0 z1 : Int) (z2 : ByteArray) (z3 : Option Addr) (zm z4 : Nat), pv' = .int .i64 prio ∧ PaSt w B b1 b2 V tot xs pv st' nv' wr ∧ PaTo B V nv nv' W wr ∧ Box wr W.heap.size #[.int .i64 0, .int .i64 0, .string ⟨#[]⟩, .slice none 0 0] 31 ∧ Box wr Rt #[.int .i64 z0, .int .i64 z1, .string z2, .slice z3 zm z4] 31 ∧ xval Rt (W.heap.size + 1) t (.agg #[.int .i64 z0, .int .i64 z1, .string z2, .slice z3 zm z4]) wr ∧ st.i + 1 ≤ st'.i ∧ xs.length < k + st'.i ∧ Hid (termN tot xs (n + 1) most st = loopF xs (termN tot xs n) most k t prio st')) (fun _ wr => xs.length + 1 - (intOf ((wr.cell? ⟨B, 1, none⟩).getD (.int .i64 0))).toNat)
    case atStart => exact ⟨t0, pr0, st2, nv2, _, _, _, _, _, _, _, rfl, H2.out.1, H2.out.2.1, H2.out.2.2.1, H2.out.2.2.2.1, H2.out.2.2.2.2, hi3', by omega, HR⟩
    case round =>
      obtain ⟨t, prio, st', nv', k, z0, z1, z2, z3, zm, z4, rfl, h8, hT8, hR8, hRt8, ht8, hsi, hk, HR2⟩ := hrel
      have hix := h8.hi
      have hk1 : ∃ k', k = k' + 1 := ⟨k - 1, by omega⟩
      have c1w := h8.box.cell 1
      simp only [List.getElem?_toArray, List.getElem?_cons_succ, List.getElem?_cons_zero] at c1w
      have HK := Lib.hid (infix_any h8 HX.out)
      have H8 := Lib.hid (And.intro h8 (And.intro hT8 (And.intro hR8 (And.intro hRt8 ht8))))
      obtain ⟨⟨name, oa, ob, oc⟩, hif⟩ : ∃ x : List UInt8 × Op3, infF xs st'.i = x := ⟨_, rfl⟩
      have HOC : Hid (0 ≤ oc ∧ oc ≤ 10000) := by have := infF_range (xs := xs) st'.i; rw [hif] at this; exact this
      have HNM : Hid (name.length ≤ 255) := by have := infF_name HX.out st'.i; rw [hif] at this; exact this
      have HIF := Lib.hid hif
      have HC1 := Lib.hid c1w
      clear h8 hT8 hR8 hRt8 ht8 hif c1w
      gi_wp2_with fail
      refine CallsIn.mono (callsIn_of_calls hF HK.out) ?_
      rintro e w1 ⟨rfl, B1⟩
      rw [HIF.out]
      simp only [opV]
      have H1 := Lib.hid (And.intro (H8.out.1.up B1) (And.intro (H8.out.2.1.trans (PaTo.up (B := B) (V := V) (nv := nv') B1)) (And.intro (H8.out.2.2.1.keep B1) (And.intro (H8.out.2.2.2.1.keep B1) (H8.out.2.2.2.2.up (TmK.of_below B1) (Nat.le_refl _))))))
      have c1w := HC1.out
      clear B1
      by_cases hoa : oa = 0
      · subst hoa
        have HRE : Hid (termN tot xs (n + 1) most st = .ok (t, st')) := by obtain ⟨k', rfl⟩ := hk1; rw [Hid, HR2.out, loopF, if_pos (by rw [HIF.out]; exact .inl rfl)]
        have hA2 := below_a1 (Nat.le_refl w1.heap.size) (.cells #[.int .i64 0, .int .i64 ob, .int .i64 oc] 48)
        have h3 := H1.out.1.up hA2
        have hT3 := H1.out.2.1.trans (PaTo.up (B := B) (V := V) (nv := nv') hA2)
        have hR3 := H1.out.2.2.1.keep hA2
        have hRt3 := H1.out.2.2.2.1.keep hA2
        have ht3 := H1.out.2.2.2.2.up (TmK.of_below hA2) (Nat.le_refl _)
        have q0 := hR3.cell 0
        have q1 := hR3.cell 1
        have q2 := hR3.cell 2
        have q3 := hR3.cell 3
        have fz0 := hR3.frozen 0
        have fz1 := hR3.frozen 1
        have fz2 := hR3.frozen 2
        have fz3 := hR3.frozen 3
        have l1 := hR3.lt
        simp only [List.getElem?_toArray, List.getElem?_cons_succ, List.getElem?_cons_zero] at q0 q1 q2 q3
        have p0 := hRt3.cell 0
        have p1 := hRt3.cell 1
        have p2 := hRt3.cell 2
        have p3 := hRt3.cell 3
        have l3 := hRt3.lt
        simp only [List.getElem?_toArray, List.getElem?_cons_succ, List.getElem?_cons_zero] at p0 p1 p2 p3
        have hop0 : Box (w1.alloc (.cells #[.int .i64 0, .int .i64 ob, .int .i64 oc] 48)) w1.heap.size #[.int .i64 0, .int .i64 ob, .int .i64 oc] 48 := World.alloc_heap_new _ _
        have H3 := Lib.hid (And.intro h3 (And.intro hT3 (And.intro hR3 ht3)))
        have o0 := hop0.cell 0
        have o1 := hop0.cell 1
        have o2 := hop0.cell 2
        have l4 := hop0.lt
        simp only [List.getElem?_toArray, List.getElem?_cons_succ, List.getElem?_cons_zero] at o0 o1 o2
        clear h3 hT3 hR3 hRt3 ht3 hA2 hop0
        gi_wp2_with fail
        have hf1 := H3.out.1.put H3.out.2.2.1 (by omega) (.int .i64 z0) (.int .i64 z1) (.string z2) (.slice z3 zm z4)
        have hf2 := H3.out.2.1.put (R := W.heap.size) (by omega) (.int .i64 z0) (.int .i64 z1) (.string z2) (.slice z3 zm z4)
        have hf3 := H3.out.2.2.1.set4 (.int .i64 z0) (.int .i64 z1) (.string z2) (.slice z3 zm z4)
        have hf4 := H3.out.2.2.2.low.set4 (show W.heap.size < W.heap.size + 1 by omega) (.int .i64 z0) (.int .i64 z1) (.string z2) (.slice z3 zm z4)
        unfold set4 at hf1 hf2 hf3 hf4
        generalize ((((w1.alloc (.cells #[.int .i64 0, .int .i64 ob, .int .i64 oc] 48)).setCell ⟨W.heap.size, 0, none⟩ (.int .i64 z0)).setCell ⟨W.heap.size, 1, none⟩ (.int .i64 z1)).setCell ⟨W.heap.size, 2, none⟩ (.string z2)).setCell ⟨W.heap.size, 3, none⟩ (.slice z3 zm z4) = FW at *
        have y0 := hf3.cell 0
        have y1 := hf3.cell 1
        have y2 := hf3.cell 2
        have y3 := hf3.cell 3
        simp only [List.getElem?_toArray, List.getElem?_cons_succ, List.getElem?_cons_zero] at y0 y1 y2 y3
        refine bodyPost_ret (v := .agg #[.int .i64 z0, .int .i64 z1, .string z2, .slice z3 zm z4]) (by simp [results, Tryz.results110, go_sem, y0, y1, y2, y3]) rfl ?_
        rw [HRE.out]
        exact ⟨_, nv', rfl, hf4.up (TmK.refl _) (by omega), hf1, hf2, hsi⟩
      · by_cases hom : oa > most
        · have q_oa : (oa == 0) = false := by simpa using hoa
          have HRE : Hid (termN tot xs (n + 1) most st = .ok (t, st')) := by obtain ⟨k', rfl⟩ := hk1; rw [Hid, HR2.out, loopF, if_pos (by rw [HIF.out]; exact .inr (.inl hom))]
          have hA2 := below_a1 (Nat.le_refl w1.heap.size) (.cells #[.int .i64 oa, .int .i64 ob, .int .i64 oc] 48)
          have h3 := H1.out.1.up hA2
          have hT3 := H1.out.2.1.trans (PaTo.up (B := B) (V := V) (nv := nv') hA2)
          have hR3 := H1.out.2.2.1.keep hA2
          have hRt3 := H1.out.2.2.2.1.keep hA2
          have ht3 := H1.out.2.2.2.2.up (TmK.of_below hA2) (Nat.le_refl _)
          have q0 := hR3.cell 0
          have q1 := hR3.cell 1
          have q2 := hR3.cell 2
          have q3 := hR3.cell 3
          have fz0 := hR3.frozen 0
          have fz1 := hR3.frozen 1
          have fz2 := hR3.frozen 2
          have fz3 := hR3.frozen 3
          have l1 := hR3.lt
          simp only [List.getElem?_toArray, List.getElem?_cons_succ, List.getElem?_cons_zero] at q0 q1 q2 q3
          have p0 := hRt3.cell 0
          have p1 := hRt3.cell 1
          have p2 := hRt3.cell 2
          have p3 := hRt3.cell 3
          have l3 := hRt3.lt
          simp only [List.getElem?_toArray, List.getElem?_cons_succ, List.getElem?_cons_zero] at p0 p1 p2 p3
          have hop0 : Box (w1.alloc (.cells #[.int .i64 oa, .int .i64 ob, .int .i64 oc] 48)) w1.heap.size #[.int .i64 oa, .int .i64 ob, .int .i64 oc] 48 := World.alloc_heap_new _ _
          have H3 := Lib.hid (And.intro h3 (And.intro hT3 (And.intro hR3 ht3)))
          have o0 := hop0.cell 0
          have o1 := hop0.cell 1
          have o2 := hop0.cell 2
          have l4 := hop0.lt
          simp only [List.getElem?_toArray, List.getElem?_cons_succ, List.getElem?_cons_zero] at o0 o1 o2
          clear h3 hT3 hR3 hRt3 ht3 hA2 hop0
          gi_wp2_with fail
          have hf1 := H3.out.1.put H3.out.2.2.1 (by omega) (.int .i64 z0) (.int .i64 z1) (.string z2) (.slice z3 zm z4)
          have hf2 := H3.out.2.1.put (R := W.heap.size) (by omega) (.int .i64 z0) (.int .i64 z1) (.string z2) (.slice z3 zm z4)
          have hf3 := H3.out.2.2.1.set4 (.int .i64 z0) (.int .i64 z1) (.string z2) (.slice z3 zm z4)
          have hf4 := H3.out.2.2.2.low.set4 (show W.heap.size < W.heap.size + 1 by omega) (.int .i64 z0) (.int .i64 z1) (.string z2) (.slice z3 zm z4)
          unfold set4 at hf1 hf2 hf3 hf4
          generalize ((((w1.alloc (.cells #[.int .i64 oa, .int .i64 ob, .int .i64 oc] 48)).setCell ⟨W.heap.size, 0, none⟩ (.int .i64 z0)).setCell ⟨W.heap.size, 1, none⟩ (.int .i64 z1)).setCell ⟨W.heap.size, 2, none⟩ (.string z2)).setCell ⟨W.heap.size, 3, none⟩ (.slice z3 zm z4) = FW at *
          have y0 := hf3.cell 0
          have y1 := hf3.cell 1
          have y2 := hf3.cell 2
          have y3 := hf3.cell 3
          simp only [List.getElem?_toArray, List.getElem?_cons_succ, List.getElem?_cons_zero] at y0 y1 y2 y3
          refine bodyPost_ret (v := .agg #[.int .i64 z0, .int .i64 z1, .string z2, .slice z3 zm z4]) (by simp [results, Tryz.results110, go_sem, y0, y1, y2, y3]) rfl ?_
          rw [HRE.out]
          exact ⟨_, nv', rfl, hf4.up (TmK.refl _) (by omega), hf1, hf2, hsi⟩
        · by_cases hob : prio > ob
          · have q_oa : (oa == 0) = false := by simpa using hoa
            have HRE : Hid (termN tot xs (n + 1) most st = .ok (t, st')) := by obtain ⟨k', rfl⟩ := hk1; rw [Hid, HR2.out, loopF, if_pos (by rw [HIF.out]; exact .inr (.inr hob))]
            have hA2 := below_a1 (Nat.le_refl w1.heap.size) (.cells #[.int .i64 oa, .int .i64 ob, .int .i64 oc] 48)
            have h3 := H1.out.1.up hA2
            have hT3 := H1.out.2.1.trans (PaTo.up (B := B) (V := V) (nv := nv') hA2)
            have hR3 := H1.out.2.2.1.keep hA2
            have hRt3 := H1.out.2.2.2.1.keep hA2
            have ht3 := H1.out.2.2.2.2.up (TmK.of_below hA2) (Nat.le_refl _)
            have q0 := hR3.cell 0
            have q1 := hR3.cell 1
            have q2 := hR3.cell 2
            have q3 := hR3.cell 3
            have fz0 := hR3.frozen 0
            have fz1 := hR3.frozen 1
            have fz2 := hR3.frozen 2
            have fz3 := hR3.frozen 3
            have l1 := hR3.lt
            simp only [List.getElem?_toArray, List.getElem?_cons_succ, List.getElem?_cons_zero] at q0 q1 q2 q3
            have p0 := hRt3.cell 0
            have p1 := hRt3.cell 1
            have p2 := hRt3.cell 2
            have p3 := hRt3.cell 3
            have l3 := hRt3.lt
            simp only [List.getElem?_toArray, List.getElem?_cons_succ, List.getElem?_cons_zero] at p0 p1 p2 p3
            have hop0 : Box (w1.alloc (.cells #[.int .i64 oa, .int .i64 ob, .int .i64 oc] 48)) w1.heap.size #[.int .i64 oa, .int .i64 ob, .int .i64 oc] 48 := World.alloc_heap_new _ _
            have H3 := Lib.hid (And.intro h3 (And.intro hT3 (And.intro hR3 ht3)))
            have o0 := hop0.cell 0
            have o1 := hop0.cell 1
            have o2 := hop0.cell 2
            have l4 := hop0.lt
            simp only [List.getElem?_toArray, List.getElem?_cons_succ, List.getElem?_cons_zero] at o0 o1 o2
            clear h3 hT3 hR3 hRt3 ht3 hA2 hop0
            gi_wp2_with fail
            have hf1 := H3.out.1.put H3.out.2.2.1 (by omega) (.int .i64 z0) (.int .i64 z1) (.string z2) (.slice z3 zm z4)
            have hf2 := H3.out.2.1.put (R := W.heap.size) (by omega) (.int .i64 z0) (.int .i64 z1) (.string z2) (.slice z3 zm z4)
            have hf3 := H3.out.2.2.1.set4 (.int .i64 z0) (.int .i64 z1) (.string z2) (.slice z3 zm z4)
            have hf4 := H3.out.2.2.2.low.set4 (show W.heap.size < W.heap.size + 1 by omega) (.int .i64 z0) (.int .i64 z1) (.string z2) (.slice z3 zm z4)
            unfold set4 at hf1 hf2 hf3 hf4
            generalize ((((w1.alloc (.cells #[.int .i64 oa, .int .i64 ob, .int .i64 oc] 48)).setCell ⟨W.heap.size, 0, none⟩ (.int .i64 z0)).setCell ⟨W.heap.size, 1, none⟩ (.int .i64 z1)).setCell ⟨W.heap.size, 2, none⟩ (.string z2)).setCell ⟨W.heap.size, 3, none⟩ (.slice z3 zm z4) = FW at *
            have y0 := hf3.cell 0
            have y1 := hf3.cell 1
            have y2 := hf3.cell 2
            have y3 := hf3.cell 3
            simp only [List.getElem?_toArray, List.getElem?_cons_succ, List.getElem?_cons_zero] at y0 y1 y2 y3
            refine bodyPost_ret (v := .agg #[.int .i64 z0, .int .i64 z1, .string z2, .slice z3 zm z4]) (by simp [results, Tryz.results110, go_sem, y0, y1, y2, y3]) rfl ?_
            rw [HRE.out]
            exact ⟨_, nv', rfl, hf4.up (TmK.refl _) (by omega), hf1, hf2, hsi⟩
          · have q_oa : (oa == 0) = false := by simpa using hoa
            have hpp : 0 ≤ oc ∧ oc ≤ 10000 := HOC.out
            obtain ⟨k', rfl⟩ : ∃ k', k = k' + 1 := ⟨k - 1, by omega⟩
            have hlt : st'.i < xs.length := by
              by_cases hq : st'.i < xs.length
              · exact hq
              · have h5 := HIF.out
                rw [infF_none (tokAt_none (by omega))] at h5
                exact absurd (congrArg (fun x : List UInt8 × Op3 => x.2.1) h5) (fun e => hoa e.symm)
            obtain ⟨i1, hi1⟩ : ∃ i1, st'.i + 1 = i1 := ⟨_, rfl⟩
            have hi2 : ((st'.i : Int) + 1) = (i1 : Int) := by omega
            have hwr : IntKind.i64.wrap (i1 : Int) = (i1 : Int) := by rw [IntKind.wrap_i64]; omega
            have HRN : Hid (termN tot xs (n + 1) most st = match termN tot xs n oc ⟨i1, st'.ns⟩ with | .error e => .error e | .ok (u, st9) => loopF xs (termN tot xs n) most k' (fn name [t, u]) oa st9) := by rw [Hid, HR2.out, loopF, if_neg (by rw [HIF.out]; exact fun h => by rcases h with h | h | h; exact hoa h; exact hom h; exact hob h), HIF.out, hi1]; rfl
            have HN1 : Hid (xs.length < n + (⟨i1, st'.ns⟩ : PS).i) := by show xs.length < n + i1; have := HN.out; omega
            have h1 := H1.out.1
            have hBlt := h1.box.lt
            have hRtlt := H1.out.2.2.2.1.lt
            have hA2 := below_a1 (Nat.le_refl w1.heap.size) (.cells #[.int .i64 oa, .int .i64 ob, .int .i64 oc] 48)
            have h3 := h1.up hA2
            have c1 := h3.box.cell 1
            have f1 := h3.box.frozen 1
            have l0 := h3.box.lt
            simp only [List.getElem?_toArray, List.getElem?_cons_succ, List.getElem?_cons_zero] at c1
            have hop9 : Box (w1.alloc (.cells #[.int .i64 oa, .int .i64 ob, .int .i64 oc] 48)) w1.heap.size #[.int .i64 oa, .int .i64 ob, .int .i64 oc] 48 := World.alloc_heap_new _ _
            have o0 := hop9.cell 0
            have o1 := hop9.cell 1
            have o2 := hop9.cell 2
            have l4 := hop9.lt
            simp only [List.getElem?_toArray, List.getElem?_cons_succ, List.getElem?_cons_zero] at o0 o1 o2
            have hszS : (w1.setCell ⟨B, 1, none⟩ (.int .i64 (i1 : Int))).heap.size = w1.heap.size := by simp
            have hS := h1.setAt i1 (by omega) (by omega)
            have hTS := H1.out.2.1.trans hS.2
            have hR4 := H1.out.2.2.1.other (fun e => hne1 e) 1 (.int .i64 (i1 : Int))
            have hRt4 := H1.out.2.2.2.1.other (fun e => hRtB e) 1 (.int .i64 (i1 : Int))
            have ht4 : xval Rt (W.heap.size + 1) t (.agg #[.int .i64 z0, .int .i64 z1, .string z2, .slice z3 zm z4]) (w1.setCell ⟨B, 1, none⟩ (.int .i64 (i1 : Int))) := H1.out.2.2.2.2.up (PaTo.tk h1 hS.2) (Nat.le_refl _)
            have H3a := Lib.hid (And.intro hS.1 (And.intro hTS (And.intro hR4 (And.intro hRt4 (And.intro ht4 hszS)))))
            clear h1 h3 hA2 hop9 hS hTS hR4 hRt4 ht4 hszS
            gi_wp2_with fail
            clear c1 f1 l0 o0 o1 o2 l4
            obtain ⟨hS, hTS, hR4, hRt4, ht4, hszS⟩ := H3a.out
            have hRtn : Rt ≠ w1.heap.size := by omega
            clear H3a
            generalize w1.setCell ⟨B, 1, none⟩ (.int .i64 (i1 : Int)) = w3 at *
            have hA3 := below_a1 (Nat.le_refl w3.heap.size) (.cells #[.int .i64 oa, .int .i64 ob, .int .i64 oc] 48)
            have hop0 : Box (w3.alloc (.cells #[.int .i64 oa, .int .i64 ob, .int .i64 oc] 48)) w3.heap.size #[.int .i64 oa, .int .i64 ob, .int .i64 oc] 48 := World.alloc_heap_new _ _
            rw [hszS] at hop0
            have hlo3 : W.heap.size + 1 ≤ (w3.alloc (.cells #[.int .i64 oa, .int .i64 ob, .int .i64 oc] 48)).heap.size := by simp; omega
            have H3 := Lib.hid (And.intro (hS.up hA3) (And.intro (hTS.trans (PaTo.up (B := B) (V := V) (nv := nv') hA3)) (And.intro hop0 (And.intro (hR4.keep hA3) (And.intro (hRt4.keep hA3) (ht4.up (TmK.of_below hA3) (Nat.le_refl _)))))))
            clear hS hTS hop0 hR4 hRt4 ht4 hA3 hszS
            generalize hR1 : w1.heap.size = R1 at *
            generalize w3.alloc (.cells #[.int .i64 oa, .int .i64 ob, .int .i64 oc] 48) = W3 at *
            refine Pan.wpIn_region_all 5 10 (fun k => k == 10 || k == 11) (fun k => decide (k < 8) && !(k == 5)) [.det (sV name), .det (.agg #[.int .i64 z0, .int .i64 z1, .string z2, .slice z3 zm z4]), .det (.pointer (some ⟨B, 0, none⟩)), .det (.pointer (some ⟨R1, 2, none⟩)), .det (.int .i64 oc), .any (YX Rt (W.heap.size + 1) (termN tot xs n oc ⟨i1, st'.ns⟩) id), .any (YLX Rt (W.heap.size + 1) (termN tot xs n oc ⟨i1, st'.ns⟩) (fun u => [t, u])), .any (YX Rt (W.heap.size + 1) (termN tot xs n oc ⟨i1, st'.ns⟩) (fun u => fn name [t, u])), .det (.pointer (some ⟨R1, 0, none⟩)), .det (.int .i64 oa), .det undef, .det (.int .i64 oa)]
              (RegX w (termN tot xs n oc ⟨i1, st'.ns⟩)) (FarX Rt) (RegU w B b1 b2 V tot xs pv nv W W3 Rt R1 W.heap.size (W.heap.size + 1) (.int .i64 z0) (.int .i64 z1) (.string z2) (.slice z3 zm z4) oa ob oc (i1 + 1) (termN tot xs n oc ⟨i1, st'.ns⟩) (fun u => fn name [t, u]) (fun w' => xval Rt (W.heap.size + 1) t (.agg #[.int .i64 z0, .int .i64 z1, .string z2, .slice z3 zm z4]) w')) hf hd (fun k f args w R h => callsIn_of_calls hF h) (by kernel_rfl) (by kernel_rfl) (by simp) (by omega) (by kernel_rfl) (by kernel_rfl) (by kernel_rfl) ?hys (RegU.start H3.out.2.2.1 hlo3 H3.out.2.2.2.1 H3.out.2.2.2.2.1 (H3.out.2.2.2.2.2.up (fun _ _ _ h => h) (Nat.le_refl _))) ?hX ?_
            case hys =>
              intro i b _
              match i with
              | 0 => trivial | 1 => trivial | 2 => trivial | 3 => trivial | 4 => trivial
              | 5 => exact YX.stable _ _ _ _ _
              | 6 => exact YLX.stable _ _ _ _ _
              | 7 => exact YX.stable _ _ _ _ _
              | 8 => trivial | 9 => trivial | 10 => trivial | 11 => trivial
              | i + 12 => intro _ _ _ _ _; trivial
            case hX =>
              rintro ch a' w9 hD ⟨p, hr, hch, hb⟩
              refine And.intro hD ?_
              rw [HRN.out, hr, hch]
              exact ⟨rfl, hb⟩
            have HKPE : Hid (∀ A Bw, Ext A Bw → xval Rt (W.heap.size + 1) t (.agg #[.int .i64 z0, .int .i64 z1, .string z2, .slice z3 zm z4]) A → xval Rt (W.heap.size + 1) t (.agg #[.int .i64 z0, .int .i64 z1, .string z2, .slice z3 zm z4]) Bw) := fun A Bw hE h => h.up (TmK.of_below hE) (Nat.le_refl _)
            have HKPT : Hid (∀ A Bw, TmK A Bw → xval Rt (W.heap.size + 1) t (.agg #[.int .i64 z0, .int .i64 z1, .string z2, .slice z3 zm z4]) A → xval Rt (W.heap.size + 1) t (.agg #[.int .i64 z0, .int .i64 z1, .string z2, .slice z3 zm z4]) Bw) := fun A Bw hK h => h.up hK (Nat.le_refl _)
            iterate 5 (
              refine Pan.wpR_step (fun K hK => ?_)
              go_simp
              apply And.intro
              · rw [Pan.yieldsR, if_neg (by decide), if_neg (by decide), if_neg (by decide), if_pos (by decide)]
                intro ph w' hph hC _
                have hop := hC.op
                have p0 := hop.1.cell 0
                have p1 := hop.1.cell 1
                have p2 := hop.1.cell 2
                have lp := hop.1.lt
                have hbx := (hC.old hph).1
                have q0 := hbx.cell 0
                have q1 := hbx.cell 1
                have q2 := hbx.cell 2
                have q3 := hbx.cell 3
                have l1 := hbx.lt
                simp only [List.getElem?_toArray, List.getElem?_cons_succ, List.getElem?_cons_zero] at q0 q1 q2 q3
                simp only [List.getElem?_toArray, List.getElem?_cons_succ, List.getElem?_cons_zero] at p0 p1 p2
                have Hq := Lib.hid hC
                clear hC hop hbx
                go_simp
                first | exact ⟨FarX.refl _ _ _, Hq.out⟩ | exact ⟨FarX.refl _ _ _, Hq.out, rfl⟩
              refine nextM_det (hK _ _ ?_)
              clear hK K)
            refine Pan.wpR_step (fun K hK => ?_)
            go_simp
            apply And.intro
            · rw [Pan.yieldsR, if_pos rfl]
              intro w' hC _
              have hE := hC.2.2
              rw [if_pos rfl] at hE
              have hS := ih oc ⟨i1, st'.ns⟩ nv' w' hpp.1 hpp.2 (H3.out.1.up hE.1) HN1.out
              have Hq := Lib.hid hC
              clear hC hE
              go_simp
              refine hS.mono ?_
              intro e w'' hQ
              exact RegU.call HKPT.out H3.out.1 H3.out.2.1 (Nat.le_refl _) Hq.out hQ
            refine nextM_any (fun y5 => hK _ _ ?_)
            clear hK K
            refine Pan.wpR_step (fun K hK => ?_)
            go_simp
            apply And.intro
            · rw [Pan.yieldsR, if_neg (by decide), if_neg (by decide), if_neg (by decide), if_pos (by decide)]
              intro ph w' hph hC hd'
              have hy : YX Rt (W.heap.size + 1) (termN tot xs n oc ⟨i1, st'.ns⟩) id y5 w' := hd' ⟨5, .data⟩ (by simp) rfl y5 rfl
              have hl0 := hy.1
              obtain ⟨-, t4, st4, hRl, hr4, ht4⟩ := hy
              obtain ⟨d0, d1, d2, d3, dm, d4, rfl⟩ := IsP.formP ht4
              have htt := (hC.old hph).2
              have Hq := Lib.hid (And.intro hC (And.intro hr4 htt))
              clear hC hd' hr4 htt
              go_simp
              refine ⟨FarX.of_ext (below_a1 (Nat.le_refl _) _), RegU.ext hph HKPE.out Hq.out.1 (below_a1 (Nat.le_refl _) _), ?_⟩
              exact ⟨by simp; omega, t4, st4, by simp; omega, Hq.out.2.1, xlval.two Hq.out.2.2 ht4 hl0 hRl⟩
            refine nextM_any (fun y6 => hK _ _ ?_)
            clear hK K
            refine Pan.wpR_step (fun K hK => ?_)
            go_simp
            apply And.intro
            · rw [Pan.yieldsR, if_neg (by decide), if_neg (by decide), if_neg (by decide), if_pos (by decide)]
              intro ph w' hph hC hd'
              have hy : YLX Rt (W.heap.size + 1) (termN tot xs n oc ⟨i1, st'.ns⟩) (fun u => [t, u]) y6 w' := hd' ⟨6, .data⟩ (by simp) rfl y6 rfl
              have hl0 := hy.1
              obtain ⟨-, t4, st4, hRl, hr4, ht4⟩ := hy
              have hS := structureX_any name HNM.out _ y6 _ _ w' hl0 ht4
              obtain ⟨ya, yc, rfl, -⟩ := ht4
              have Hq := Lib.hid (And.intro hC hr4)
              clear hC hd' hr4
              go_simp
              refine hS.mono ?_
              rintro e w'' ⟨u, rfl, hu, hB⟩
              exact .inl ⟨u, rfl, FarX.of_ext hB, RegU.ext hph HKPE.out Hq.out.1 hB, Nat.le_trans hl0 hB.size, t4, st4, Nat.lt_of_lt_of_le hRl hB.size, Hq.out.2, hu⟩
            refine nextM_any (fun y7 => hK _ _ ?_)
            clear hK K
            iterate 2 (
              refine Pan.wpR_step (fun K hK => ?_)
              go_simp
              apply And.intro
              · rw [Pan.yieldsR, if_neg (by decide), if_neg (by decide), if_neg (by decide), if_neg (by decide)]
                intro ph w' hC _
                have hop := hC.op
                have p0 := hop.1.cell 0
                have p1 := hop.1.cell 1
                have p2 := hop.1.cell 2
                have lp := hop.1.lt
                simp only [List.getElem?_toArray, List.getElem?_cons_succ, List.getElem?_cons_zero] at p0 p1 p2
                have Hq := Lib.hid hC
                clear hC hop
                go_simp
                first | exact ⟨FarX.refl _ _ _, Hq.out⟩ | exact ⟨FarX.refl _ _ _, Hq.out, rfl⟩
              refine nextM_det (hK _ _ ?_)
              clear hK K)
            refine Pan.wpR_step (fun K hK => ?_)
            go_simp
            apply And.intro
            · rw [Pan.yieldsR, if_neg (by decide), if_pos rfl]
              intro w' hC hd'
              have hy : YX Rt (W.heap.size + 1) (termN tot xs n oc ⟨i1, st'.ns⟩) (fun u => fn name [t, u]) y7 w' := hd' ⟨7, .data⟩ (by simp) rfl y7 rfl
              obtain ⟨d0, d1, d2, d3, dm, d4, rfl⟩ := IsP.formP hy.2.choose_spec.choose_spec.2.2
              have hst := RegU.store (by omega) (by omega) (fun e => hRtn e.symm) (by omega) hC hy
              have hbx := (hC.old (by omega)).1
              have Hq := Lib.hid hst
              have q0 := hbx.cell 0
              have q1 := hbx.cell 1
              have q2 := hbx.cell 2
              have q3 := hbx.cell 3
              have z_0 := hbx.frozen 0
              have z_1 := hbx.frozen 1
              have z_2 := hbx.frozen 2
              have z_3 := hbx.frozen 3
              have l1 := hbx.lt
              simp only [List.getElem?_toArray, List.getElem?_cons_succ, List.getElem?_cons_zero] at q0 q1 q2 q3
              clear hC hd' hst hbx hy
              unfold set4 at Hq
              go_simp
              first | exact ⟨Hq.out.1, Hq.out.2⟩ | exact ⟨Hq.out.1, Hq.out.2, rfl⟩
            refine nextM_det (hK _ _ ?_)
            clear hK K
            refine Pan.wpR_step (fun K hK => ?_)
            go_simp
            apply And.intro
            · rw [Pan.yieldsR, if_neg (by decide), if_neg (by decide), if_pos (by decide)]
              intro w' hC _
              have Hq := Lib.hid hC
              clear hC
              go_simp
              first | exact ⟨FarX.refl _ _ _, Hq.out⟩ | exact ⟨FarX.refl _ _ _, Hq.out, rfl⟩
            refine nextM_det (hK _ _ ?_)
            clear hK K
            refine Pan.wpR_nil (fun w9 hC _ => ?_)
            obtain ⟨hop9, hZ9, t9, st9, nv9, e0, e1, e2, e3, hr9, h9, hT9, hi9, hb9, ht9⟩ := hC.done
            clear hC
            obtain ⟨g0, g1, g2, g3, gm, g4, e⟩ := IsP.formP ht9
            cases e
            have hRN9 := HRN.out
            rw [hr9] at hRN9
            have HRN9 : Hid (termN tot xs (n + 1) most st = loopF xs (termN tot xs n) most k' (fn name [t, t9]) oa st9) := hRN9
            have H9 := Lib.hid (And.intro h9 (And.intro hT9 (And.intro hZ9 (And.intro hb9 ht9))))
            have d1 := h9.box.cell 1
            simp only [List.getElem?_toArray, List.getElem?_cons_succ, List.getElem?_cons_zero] at d1
            clear h9 hT9 ht9 hr9 hop9 hb9 hZ9 hRN9
            simp only [Act.put, List.setIfInBounds_toArray, List.set_cons_succ, List.set_cons_zero]
            gi_wp2_with fail
            go_roundw
            case rel => exact ⟨fn name [t, t9], oa, st9, nv9, k', _, _, _, _, _, _, rfl, H9.out.1, H9.out.2.1, H9.out.2.2.1, H9.out.2.2.2.1, H9.out.2.2.2.2, by omega, by omega, HRN9⟩
            case measure =>
              simp only [d1, c1w, Option.getD_some, intOf, Int.toNat_natCast]
              omega
theorem term_ok (hx : LxOk tot xs) : ∀ n, TermOk w B b1 b2 V tot xs pv n
  | 0 => fun most st nv W _ _ h hn => by have := h.hi; omega
  | n + 1 => term_step (term_ok hx n) hx
end
end Go.Proofs.YthfciekhmbfmfaaGreatDoor
