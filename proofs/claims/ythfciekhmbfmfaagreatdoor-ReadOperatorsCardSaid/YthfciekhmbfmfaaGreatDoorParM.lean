/- The parser's named: what begins with a name without quotes. -/
import Derived.Test.YthfciekhmbfmfaaGreatDoorWriF
namespace Go.Proofs.YthfciekhmbfmfaaGreatDoor
open Go.RowKit Go Go.Maps

attribute [local go_sem] Oper.semAt_some Pan.uponX Yld.says monoUpon

/-- A term, and its priority. -/
def pval (lo : Nat) (x : Tr × Int) (v : Value) (W : World) : Prop := ∃ u, v = .tuple #[u, .int .i64 x.2] ∧ tval lo x.1 u W
theorem pre_range (name : List UInt8) : 0 ≤ (preV (nm name)).2.2 ∧ (preV (nm name)).2.2 ≤ 10000 := by
  unfold preV tabF
  by_cases h : ∃ x, (opsP.reverse.find? fun x => x.1.data.toList == (nm name).data.toList) = some x
  · obtain ⟨x, hx⟩ := h
    rw [hx]
    have hm := List.mem_of_find?_eq_some hx
    simp only [opsP, List.reverse_cons, List.reverse_nil, List.nil_append, List.cons_append, List.mem_cons, List.not_mem_nil, or_false] at hm
    rcases hm with rfl | rfl <;> decide
  · have hn : (opsP.reverse.find? fun x => x.1.data.toList == (nm name).data.toList) = none := by
      cases hf : (opsP.reverse.find? fun x => x.1.data.toList == (nm name).data.toList) with
      | none => rfl
      | some x => exact absurd ⟨x, hf⟩ h
    rw [hn]
    decide
section
variable {w : World} {B b1 b2 V tot : Nat} {xs : List Lx} {pv nv : Value} {st : PS} {W : World} {n : Nat}
/-- What comes behind a name that opens nothing, and is no number's sign. -/
theorem namedF_cont {name : List UInt8} {most : Int} {r : Int → PS → PR Tr} (h1 : isSg (glue xs st.i) [40] = false) (h2 : ¬ (name = [45] ∧ taB .int (glue xs st.i) = true)) : namedF tot xs r name most st =
    if (preV (nm name)).1 > 0 ∧ (preV (nm name)).1 ≤ most then
      match r (preV (nm name)).2.2 ⟨st.i + 1, st.ns⟩ with
      | .error e => .error e
      | .ok (t, st') => .ok ((fn name [t], (preV (nm name)).1), st')
    else if isOp name = true then .error (plc tot xs st.i)
    else match plainF tot xs r name st with | .error e => .error e | .ok (t, st') => .ok ((t, 0), st') := by
  have ho : ((infV (nm name)).1 > 0 ∨ (preV (nm name)).1 > 0) = (isOp name = true) := by simp [isOp]
  unfold namedF
  rw [h1]
  simp only [Bool.false_eq_true, if_false, ho]
  by_cases hn : name = [45]
  · rw [if_pos hn]
    cases hg : glue xs st.i with
    | none => rfl
    | some t =>
      obtain ⟨k, s, m⟩ := t
      cases k with
      | int => exact absurd ⟨hn, by rw [hg]; rfl⟩ h2
      | _ => rfl
  · rw [if_neg hn]
    rfl
theorem namedF_num {name : List UInt8} {most : Int} {r : Int → PS → PR Tr} {s : List UInt8} {m : Nat} (h1 : isSg (glue xs st.i) [40] = false) (hn : name = [45]) (h2 : glue xs st.i = some ⟨.int, s, m⟩) : namedF tot xs r name most st = .ok ((.node 2 (-(m : Int)) (nm []) [], 0), ⟨st.i + 2, st.ns⟩) := by
  unfold namedF
  rw [h1, if_neg (by decide), if_pos hn, h2]
set_option maxRecDepth 100000 in
set_option maxHeartbeats 32000000 in
theorem named_any (hT : TermOk w B b1 b2 V tot xs pv n) (h : PaSt w B b1 b2 V tot xs pv st nv W) (hx : LxOk tot xs) (hn : xs.length < n + (st.i + 1)) (hlt : st.i < xs.length) (name : List UInt8) (hnm : name.length ≤ 255) (most : Int) :
    Calls Tryz.prog 190 #[.pointer (some ⟨B, 0, none⟩), sV name, .int .i64 most] W (PaQ w B b1 b2 V tot xs pv nv (st.i + 1) W (pval W.heap.size) (namedF tot xs (termN tot xs n) name most st)) := by
  have HT := Lib.hid hT
  have HX := Lib.hid hx
  have HN := Lib.hid hn
  have HNM := Lib.hid hnm
  have hl8 := hx.len
  obtain ⟨hne1, hne2⟩ := h.ne
  have hks : (⟨name.toArray⟩ : ByteArray).size ≤ maxLen := by show name.toArray.size ≤ _; simp [maxLen]; omega
  have hR0 : Box (W.alloc (.cells #[.int .i64 0, .int .i64 0, .string ⟨#[]⟩, .slice none 0 0] 31)) W.heap.size #[.int .i64 0, .int .i64 0, .string ⟨#[]⟩, .slice none 0 0] 31 := World.alloc_heap_new _ _
  have hA := below_a1 (Nat.le_refl W.heap.size) (.cells #[.int .i64 0, .int .i64 0, .string ⟨#[]⟩, .slice none 0 0] 31)
  have h0 := h.up hA
  have hT0 := PaTo.up (B := B) (V := V) (nv := nv) hA
  have hwW := h.below.size
  obtain ⟨i1, hi1⟩ : ∃ i1, st.i + 1 = i1 := ⟨_, rfl⟩
  have hi2 : ((st.i : Int) + 1) = (i1 : Int) := by omega
  have hwr : IntKind.i64.wrap (i1 : Int) = (i1 : Int) := by rw [IntKind.wrap_i64]; omega
  have HI := Lib.hid hi1
  have HN1 : Hid (xs.length < n + (⟨i1, st.ns⟩ : PS).i) := by show xs.length < n + i1; omega
  have HO := Lib.hid (opens_any h0 hx)
  have H0 := Lib.hid (And.intro h0 (And.intro hT0 hR0))
  obtain ⟨⟨pa, pb, pc⟩, hpv⟩ : ∃ o : Op3, preV (nm name) = o := ⟨_, rfl⟩
  have HPC : Hid (0 ≤ pc ∧ pc ≤ 10000) := by have := pre_range name; rw [hpv] at this; exact this
  have HPV := Lib.hid hpv
  clear h h0 hT0 hR0 hA hi1 hT hn hpv hnm
  refine (callsIn_wide (n := 9)).1 ?_
  generalize hF : Fence.wide = F
  have hd : F.depth = none := by subst hF; rfl
  have hf : ∀ f, F.fn f := fun f => by subst hF; trivial
  have hro : F.round = none := by subst hF; rfl
  cases hb : isSg (glue xs st.i) [40] with
  | true =>
    have HNF : Hid (namedF tot xs (termN tot xs n) name most st = match plainF tot xs (termN tot xs n) name st with | .error e => .error e | .ok (t, st') => .ok ((t, 0), st')) := by rw [Hid, namedF, hb]; rfl
    have HBB := Lib.hid hb
    clear hb
    refine callsIn_of_wp Tryz.func190 rfl (hf _) ?_ hro
    simp only [Tryz.ntmps190, List.size_toArray, List.length_cons, List.length_nil, Nat.reduceAdd, Nat.reduceSub, Array.replicate_succ, Array.replicate_zero, List.push_toArray, List.append_toArray, List.nil_append, List.cons_append]
    gi_wp2_with fail
    refine CallsIn.mono (callsIn_of_calls hF HO.out) ?_
    rintro e w1 ⟨rfl, B1⟩
    rw [HBB.out]
    have H1 := Lib.hid (And.intro (H0.out.1.up B1) (And.intro (H0.out.2.1.trans (PaTo.up (B := B) (V := V) (nv := nv) B1)) (H0.out.2.2.keep B1)))
    have hw1 : W.heap.size + 1 ≤ w1.heap.size := by have := (H1.out.2.2).lt; omega
    clear B1
    gi_wp2_with fail
    refine CallsIn.mono (callsIn_of_calls hF (plain_any HT.out H1.out.1 HX.out HN.out hlt name HNM.out)) ?_
    rintro e w2 hQ2
    cases hr : plainF tot xs (termN tot xs n) name st with
    | error p =>
      rw [hr] at hQ2
      obtain ⟨rfl, hb⟩ := hQ2
      refine And.intro rfl ?_
      rw [HNF.out, hr]
      exact ⟨rfl, hb⟩
    | ok x =>
      obtain ⟨t, st2⟩ := x
      rw [hr] at hQ2
      obtain ⟨v2, nv2, rfl, ht, h2, hT2, hi3⟩ := hQ2
      obtain ⟨a0, a1, a2, a3, am, a4, rfl⟩ := IsP.formP ht
      have hR3 := PaTo.box H1.out.1 hT2 H1.out.2.2 (by decide) (by decide)
      have hRW := (H1.out.2.2).lt
      have hi3' : st.i + 1 ≤ st2.i := hi3
      have H2 := Lib.hid (And.intro h2 (And.intro (H1.out.2.1.trans hT2) (And.intro hR3 ht)))
      have HR := Lib.hid hr
      have q0 := hR3.cell 0
      have q1 := hR3.cell 1
      have q2 := hR3.cell 2
      have q3 := hR3.cell 3
      have z0 := hR3.frozen 0
      have z1 := hR3.frozen 1
      have z2 := hR3.frozen 2
      have z3 := hR3.frozen 3
      have l1 := hR3.lt
      simp only [List.getElem?_toArray, List.getElem?_cons_succ, List.getElem?_cons_zero] at q0 q1 q2 q3
      clear h2 hT2 hR3 ht hi3 hr
      gi_wp2_with fail
      have hf1 := H2.out.1.put H2.out.2.2.1 (by omega) (.int .i64 a0) (.int .i64 a1) (.string a2) (.slice a3 am a4)
      have hf2 := H2.out.2.1.put (R := W.heap.size) (by omega) (.int .i64 a0) (.int .i64 a1) (.string a2) (.slice a3 am a4)
      have hf3 := H2.out.2.2.1.set4 (.int .i64 a0) (.int .i64 a1) (.string a2) (.slice a3 am a4)
      have hf4 := H2.out.2.2.2.set4 (show W.heap.size < (w1).heap.size by omega) (.int .i64 a0) (.int .i64 a1) (.string a2) (.slice a3 am a4)
      unfold set4 at hf1 hf2 hf3 hf4
      generalize (((w2.setCell ⟨W.heap.size, 0, none⟩ (.int .i64 a0)).setCell ⟨W.heap.size, 1, none⟩ (.int .i64 a1)).setCell ⟨W.heap.size, 2, none⟩ (.string a2)).setCell ⟨W.heap.size, 3, none⟩ (.slice a3 am a4) = FW at *
      have y0 := hf3.cell 0
      have y1 := hf3.cell 1
      have y2 := hf3.cell 2
      have y3 := hf3.cell 3
      simp only [List.getElem?_toArray, List.getElem?_cons_succ, List.getElem?_cons_zero] at y0 y1 y2 y3
      refine bodyPost_ret (v := .tuple #[.agg #[.int .i64 a0, .int .i64 a1, .string a2, .slice a3 am a4], .int .i64 0]) (by simp [results, Tryz.results190, go_sem, y0, y1, y2, y3]) rfl ?_
      rw [HNF.out, HR.out]
      exact ⟨_, nv2, rfl, ⟨_, rfl, hf4.up (TmK.refl _) (by omega)⟩, hf1, hf2, hi3'⟩
  | false =>
    have HBB := Lib.hid hb
    clear hb
    cases hg : taB .int (glue xs st.i) with
    | false =>
      have hta := ta_any .int (glue xs st.i)
      rw [hg] at hta
      simp only [kTy] at hta
      have HCF := Lib.hid (namedF_cont (tot := tot) (xs := xs) (st := st) (most := most) (name := name) (r := termN tot xs n) HBB.out (by rw [hg]; simp))
      rw [HPV.out] at HCF
      clear hg
      refine callsIn_of_wp Tryz.func190 rfl (hf _) ?_ hro
      simp only [Tryz.ntmps190, List.size_toArray, List.length_cons, List.length_nil, Nat.reduceAdd, Nat.reduceSub, Array.replicate_succ, Array.replicate_zero, List.push_toArray, List.append_toArray, List.nil_append, List.cons_append]
      gi_wp2_with fail
      refine CallsIn.mono (callsIn_of_calls hF HO.out) ?_
      rintro e w1 ⟨rfl, B1⟩
      rw [HBB.out]
      have H1 := Lib.hid (And.intro (H0.out.1.up B1) (And.intro (H0.out.2.1.trans (PaTo.up (B := B) (V := V) (nv := nv) B1)) (H0.out.2.2.keep B1)))
      have HG := Lib.hid (glued_any H1.out.1 HX.out)
      clear B1
      gi_wp2_with fail
      refine CallsIn.mono (callsIn_of_calls hF HG.out) ?_
      rintro e w2 ⟨rfl, B2⟩
      have H2 := Lib.hid (And.intro (H1.out.1.up B2) (And.intro (H1.out.2.1.trans (PaTo.up (B := B) (V := V) (nv := nv) B2)) (H1.out.2.2.keep B2)))
      clear B2
      have h1w := H2.out.1
      obtain ⟨o1, o2, o3, ⟨m1, o4⟩, m2, o5⟩ := h1w.ops
      have hlk := o5.look ⟨name.toArray⟩ hks
      rw [show (tabF opsP (⟨name.toArray⟩ : ByteArray).data.toList).getD (0, 0, 0) = (pa, pb, pc) from HPV.out] at hlk
      simp only [opV] at hlk
      have c4 := h1w.box.cell 4
      have c1 := h1w.box.cell 1
      have f1 := h1w.box.frozen 1
      have l0 := h1w.box.lt
      simp only [List.getElem?_toArray, List.getElem?_cons_succ, List.getElem?_cons_zero] at c4 c1
      clear h1w o1 o2 o3 o4 o5
      by_cases hpa : 0 < pa
      · by_cases hpm : pa ≤ most
        · have hpp : 0 ≤ pc ∧ pc ≤ 10000 := HPC.out
          have HNF : Hid (namedF tot xs (termN tot xs n) name most st = match termN tot xs n pc ⟨i1, st.ns⟩ with | .error e => .error e | .ok (t, st') => .ok ((fn name [t], pa), st')) := by rw [Hid, HCF.out, if_pos ⟨hpa, hpm⟩, HI.out]
          gi_wp2_with fail
          have hBlt := H2.out.1.box.lt
          have hRlt := H2.out.2.2.lt
          have hszS : (w2.setCell ⟨B, 1, none⟩ (.int .i64 (i1 : Int))).heap.size = w2.heap.size := by simp
          have hS := H2.out.1.setAt i1 (by have := HI.out; omega) (by have := HI.out; omega)
          have hR4 := H2.out.2.2.other (fun e => hne1 e) 1 (.int .i64 (i1 : Int))
          have hTS := H2.out.2.1.trans hS.2
          have hR1n : W.heap.size ≠ w2.heap.size := by omega
          have hlo3 : W.heap.size + 1 ≤ ((w2.setCell ⟨B, 1, none⟩ (.int .i64 (i1 : Int))).alloc (.cells #[.int .i64 pa, .int .i64 pb, .int .i64 pc] 48)).heap.size := by simp; omega
          generalize w2.setCell ⟨B, 1, none⟩ (.int .i64 (i1 : Int)) = w3 at *
          have hA3 := below_a1 (Nat.le_refl w3.heap.size) (.cells #[.int .i64 pa, .int .i64 pb, .int .i64 pc] 48)
          have hop0 : Box (w3.alloc (.cells #[.int .i64 pa, .int .i64 pb, .int .i64 pc] 48)) w3.heap.size #[.int .i64 pa, .int .i64 pb, .int .i64 pc] 48 := World.alloc_heap_new _ _
          rw [hszS] at hop0
          have H3 := Lib.hid (And.intro (hS.1.up hA3) (And.intro (hTS.trans (PaTo.up (B := B) (V := V) (nv := nv) hA3)) (And.intro hop0 (hR4.keep hA3))))
          clear hS hTS hop0 hR4 hA3 c1 f1 l0 hszS
          generalize hR1 : w2.heap.size = R1 at *
          generalize w3.alloc (.cells #[.int .i64 pa, .int .i64 pb, .int .i64 pc] 48) = W3 at *
          refine Pan.wpIn_region_all 4 9 (fun k => k == 9 || k == 10) (fun k => decide (k < 7) && !(k == 4)) [.det (sV name), .det (.pointer (some ⟨B, 0, none⟩)), .det (.pointer (some ⟨R1, 2, none⟩)), .det (.int .i64 pc), .any (YT (W.heap.size + 1) (termN tot xs n pc ⟨i1, st.ns⟩) id), .any (YL (W.heap.size + 1) (termN tot xs n pc ⟨i1, st.ns⟩) (fun t => [t])), .any (YT (W.heap.size + 1) (termN tot xs n pc ⟨i1, st.ns⟩) (fun t => fn name [t])), .det (.pointer (some ⟨R1, 0, none⟩)), .det (.int .i64 pa), .det undef, .det (.int .i64 pa)]
            (RegX w (termN tot xs n pc ⟨i1, st.ns⟩)) (FarK (W.heap.size + 1)) (RegC w B b1 b2 V tot xs pv nv W W3 W.heap.size R1 (W.heap.size + 1) (.int .i64 0) (.int .i64 0) (.string ⟨#[]⟩) (.slice none 0 0) pa pb pc (i1 + 1) (termN tot xs n pc ⟨i1, st.ns⟩) (fun t => fn name [t]) (fun _ => True)) hf hd (fun k f args w R h => callsIn_of_calls hF h) (by kernel_rfl) (by kernel_rfl) (by simp) (by omega) (by kernel_rfl) (by kernel_rfl) (by kernel_rfl) ?hys (RegC.start H3.out.2.2.1 hlo3 H3.out.2.2.2 trivial) ?hX ?_
          case hys =>
            intro i b _
            match i with
            | 0 => trivial | 1 => trivial | 2 => trivial | 3 => trivial
            | 4 => exact YT.stable _ _ _ _
            | 5 => exact YL.stable _ _ _ _
            | 6 => exact YT.stable _ _ _ _
            | 7 => trivial | 8 => trivial | 9 => trivial | 10 => trivial
            | i + 11 => intro _ _ _ _ _; trivial
          case hX =>
            rintro ch a' w9 hD ⟨p, hr, hch, hb⟩
            refine And.intro hD ?_
            rw [HNF.out, hr, hch]
            exact ⟨rfl, hb⟩
          iterate 4 (
            refine Pan.wpR_step (fun K hK => ?_)
            go_simp
            apply And.intro
            · rw [Pan.yieldsR, if_neg (by decide), if_neg (by decide), if_neg (by decide), if_pos (by decide)]
              intro ph w' hph hC _
              have hop := hC.op
              have p0 := hop.1.cell 0
              have p1 := hop.1.cell 1
              have p2 := hop.1.cell 2
              have lp := hop.1.lt
              simp only [List.getElem?_toArray, List.getElem?_cons_succ, List.getElem?_cons_zero] at p0 p1 p2
              have Hq := Lib.hid hC
              clear hC hop
              go_simp
              first | exact ⟨FarK.refl _ _ _, Hq.out⟩ | exact ⟨FarK.refl _ _ _, Hq.out, rfl⟩
            refine nextM_det (hK _ _ ?_)
            clear hK K)
          refine Pan.wpR_step (fun K hK => ?_)
          go_simp
          apply And.intro
          · rw [Pan.yieldsR, if_pos rfl]
            intro w' hC _
            have hE := hC.2
            rw [if_pos rfl] at hE
            have hS := HT.out pc ⟨i1, st.ns⟩ nv w' hpp.1 hpp.2 (H3.out.1.up hE.1) HN1.out
            have Hq := Lib.hid hC
            clear hC hE
            go_simp
            refine hS.mono ?_
            intro e w'' hQ
            exact RegC.call (fun _ _ _ _ => trivial) H3.out.1 H3.out.2.1 (Nat.le_refl _) Hq.out hQ
          refine nextM_any (fun y4 => hK _ _ ?_)
          clear hK K
          refine Pan.wpR_step (fun K hK => ?_)
          go_simp
          apply And.intro
          · rw [Pan.yieldsR, if_neg (by decide), if_neg (by decide), if_neg (by decide), if_pos (by decide)]
            intro ph w' hph hC hd'
            have hy : YT (W.heap.size + 1) (termN tot xs n pc ⟨i1, st.ns⟩) id y4 w' := hd' ⟨4, .data⟩ (by simp) rfl y4 rfl
            have hl0 := hy.1
            obtain ⟨-, t4, st4, hr4, ht4⟩ := hy
            obtain ⟨d0, d1, d2, d3, dm, d4, rfl⟩ := IsP.formP ht4
            have Hq := Lib.hid (And.intro hC hr4)
            clear hC hd' hr4
            go_simp
            refine ⟨FarK.of_ext (below_a1 (Nat.le_refl _) _), RegC.ext hph (fun _ _ _ _ => trivial) Hq.out.1 (below_a1 (Nat.le_refl _) _), ?_⟩
            exact ⟨by simp; omega, t4, st4, Hq.out.2, lval.one ht4 hl0⟩
          refine nextM_any (fun y5 => hK _ _ ?_)
          clear hK K
          refine Pan.wpR_step (fun K hK => ?_)
          go_simp
          apply And.intro
          · rw [Pan.yieldsR, if_neg (by decide), if_neg (by decide), if_neg (by decide), if_pos (by decide)]
            intro ph w' hph hC hd'
            have hy : YL (W.heap.size + 1) (termN tot xs n pc ⟨i1, st.ns⟩) (fun t => [t]) y5 w' := hd' ⟨5, .data⟩ (by simp) rfl y5 rfl
            have hl0 := hy.1
            obtain ⟨-, t4, st4, hr4, ht4⟩ := hy
            have hS := structure_any name HNM.out _ y5 _ w' hl0 ht4
            obtain ⟨ya, yc, rfl, -⟩ := ht4
            have Hq := Lib.hid (And.intro hC hr4)
            clear hC hd' hr4
            go_simp
            refine hS.mono ?_
            rintro e w'' ⟨u, rfl, hu, hB⟩
            exact .inl ⟨u, rfl, FarK.of_ext hB, RegC.ext hph (fun _ _ _ _ => trivial) Hq.out.1 hB, Nat.le_trans hl0 hB.size, t4, st4, Hq.out.2, hu⟩
          refine nextM_any (fun y6 => hK _ _ ?_)
          clear hK K
          iterate 2 (
            refine Pan.wpR_step (fun K hK => ?_)
            go_simp
            apply And.intro
            · rw [Pan.yieldsR, if_neg (by decide), if_neg (by decide), if_neg (by decide), if_neg (by decide)]
              intro ph w' hC _
              have hop := hC.op
              have p0 := hop.1.cell 0
              have p1 := hop.1.cell 1
              have p2 := hop.1.cell 2
              have lp := hop.1.lt
              simp only [List.getElem?_toArray, List.getElem?_cons_succ, List.getElem?_cons_zero] at p0 p1 p2
              have Hq := Lib.hid hC
              clear hC hop
              go_simp
              first | exact ⟨FarK.refl _ _ _, Hq.out⟩ | exact ⟨FarK.refl _ _ _, Hq.out, rfl⟩
            refine nextM_det (hK _ _ ?_)
            clear hK K)
          refine Pan.wpR_step (fun K hK => ?_)
          go_simp
          apply And.intro
          · rw [Pan.yieldsR, if_neg (by decide), if_pos rfl]
            intro w' hC hd'
            have hy : YT (W.heap.size + 1) (termN tot xs n pc ⟨i1, st.ns⟩) (fun t => fn name [t]) y6 w' := hd' ⟨6, .data⟩ (by simp) rfl y6 rfl
            obtain ⟨d0, d1, d2, d3, dm, d4, rfl⟩ := IsP.formP hy.2.choose_spec.choose_spec.2
            have hst := RegC.store (by omega) (by omega) (Nat.le_refl _) (fun e => hR1n e.symm) hC hy
            have hbx := (hC.old (by omega)).1
            have Hq := Lib.hid hst
            have q0 := hbx.cell 0
            have q1 := hbx.cell 1
            have q2 := hbx.cell 2
            have q3 := hbx.cell 3
            have z0 := hbx.frozen 0
            have z1 := hbx.frozen 1
            have z2 := hbx.frozen 2
            have z3 := hbx.frozen 3
            have l1 := hbx.lt
            simp only [List.getElem?_toArray, List.getElem?_cons_succ, List.getElem?_cons_zero] at q0 q1 q2 q3
            clear hC hd' hst hbx hy
            unfold set4 at Hq
            go_simp
            first | exact ⟨Hq.out.1, Hq.out.2⟩ | exact ⟨Hq.out.1, Hq.out.2, rfl⟩
          refine nextM_det (hK _ _ ?_)
          clear hK K
          refine Pan.wpR_step (fun K hK => ?_)
          go_simp
          apply And.intro
          · rw [Pan.yieldsR, if_neg (by decide), if_neg (by decide), if_pos (by decide)]
            intro w' hC _
            have Hq := Lib.hid hC
            clear hC
            go_simp
            first | exact ⟨FarK.refl _ _ _, Hq.out⟩ | exact ⟨FarK.refl _ _ _, Hq.out, rfl⟩
          refine nextM_det (hK _ _ ?_)
          clear hK K
          refine Pan.wpR_nil (fun w9 hC _ => ?_)
          obtain ⟨hop9, t9, st9, nv9, a0, a1, a2, a3, hr9, h9, hT9, hi9, hb9, ht9⟩ := hC.done
          clear hC
          obtain ⟨g0, g1, g2, g3, gm, g4, e⟩ := IsP.formP ht9
          cases e
          have y0 := hb9.cell 0
          have y1 := hb9.cell 1
          have y2 := hb9.cell 2
          have y3 := hb9.cell 3
          have l9 := hb9.lt
          simp only [List.getElem?_toArray, List.getElem?_cons_succ, List.getElem?_cons_zero] at y0 y1 y2 y3
          have H9 := Lib.hid (And.intro h9 (And.intro hT9 (And.intro ht9 hr9)))
          clear h9 hT9 ht9 hr9 hop9 hb9
          gi_wp2_with fail
          refine bodyPost_ret (v := .tuple #[.agg #[.int .i64 g0, .int .i64 g1, .string g2, .slice g3 gm g4], .int .i64 pa]) (by simp [results, Tryz.results190, go_sem, y0, y1, y2, y3]) rfl ?_
          rw [HNF.out, H9.out.2.2.2]
          exact ⟨_, nv9, rfl, ⟨_, rfl, H9.out.2.2.1.up (TmK.refl _) (by omega)⟩, H9.out.1, H9.out.2.1, by have := HI.out; omega⟩
        · have HNF : Hid (namedF tot xs (termN tot xs n) name most st = if isOp name = true then .error (plc tot xs st.i) else match plainF tot xs (termN tot xs n) name st with | .error e => .error e | .ok (t, st') => .ok ((t, 0), st')) := by rw [Hid, HCF.out, if_neg (fun h => hpm h.2)]
          have hA3 := below_a1 (Nat.le_refl w2.heap.size) (.cells #[.int .i64 pa, .int .i64 pb, .int .i64 pc] 48)
          have h3 := H2.out.1.up hA3
          have HH := Lib.hid (fun W' (hB : Below (w2.alloc (.cells #[.int .i64 pa, .int .i64 pb, .int .i64 pc] 48)).heap.size (w2.alloc (.cells #[.int .i64 pa, .int .i64 pb, .int .i64 pc] 48)) W') => And.intro (h3.up hB) (And.intro ((H2.out.2.1.trans (PaTo.up (B := B) (V := V) (nv := nv) hA3)).trans (PaTo.up (B := B) (V := V) (nv := nv) hB)) ((H2.out.2.2.keep hA3).keep hB)))
          have HHAS := Lib.hid (has_any _ _ b1 b2 h3.ops name HNM.out)
          have c3 := h3.box.cell 3
          have c4 := h3.box.cell 4
          have l3 := h3.box.lt
          simp only [List.getElem?_toArray, List.getElem?_cons_succ, List.getElem?_cons_zero] at c3 c4
          clear h3 hA3
          gi_wp2_with fail
          refine CallsIn.mono (callsIn_of_calls hF HHAS.out) ?_
          rintro e w3 ⟨rfl, hB3⟩
          have H3 := Lib.hid (HH.out w3 hB3)
          have hw3 : W.heap.size + 1 ≤ w3.heap.size := by have := (H3.out.2.2).lt; omega
          clear hB3
          cases hop : isOp name with
          | true =>
            rw [hop] at HNF
            have HC := Lib.hid (tooMuch_any H3.out.1 HX.out)
            gi_wp2_with fail
            refine CallsIn.mono (callsIn_of_calls hF HC.out) ?_
            rintro e w4 ⟨rfl, hb⟩
            refine And.intro rfl ?_
            rw [HNF.out]
            exact ⟨rfl, H3.out.1.below.trans (hb.mono H3.out.1.below.size)⟩
          | false =>
            rw [hop] at HNF
            simp only [Bool.false_eq_true, if_false] at HNF
            gi_wp2_with fail
            refine CallsIn.mono (callsIn_of_calls hF (plain_any HT.out H3.out.1 HX.out HN.out hlt name HNM.out)) ?_
            rintro e w5 hQ2
            cases hr : plainF tot xs (termN tot xs n) name st with
            | error p =>
              rw [hr] at hQ2
              obtain ⟨rfl, hb⟩ := hQ2
              refine And.intro rfl ?_
              rw [HNF.out, hr]
              exact ⟨rfl, hb⟩
            | ok x =>
              obtain ⟨t, st2⟩ := x
              rw [hr] at hQ2
              obtain ⟨v2, nv2, rfl, ht, h2, hT2, hi3⟩ := hQ2
              obtain ⟨a0, a1, a2, a3, am, a4, rfl⟩ := IsP.formP ht
              have hR3 := PaTo.box H3.out.1 hT2 H3.out.2.2 (by decide) (by decide)
              have hRW := (H3.out.2.2).lt
              have hi3' : st.i + 1 ≤ st2.i := hi3
              have H2 := Lib.hid (And.intro h2 (And.intro (H3.out.2.1.trans hT2) (And.intro hR3 ht)))
              have HR := Lib.hid hr
              have q0 := hR3.cell 0
              have q1 := hR3.cell 1
              have q2 := hR3.cell 2
              have q3 := hR3.cell 3
              have z0 := hR3.frozen 0
              have z1 := hR3.frozen 1
              have z2 := hR3.frozen 2
              have z3 := hR3.frozen 3
              have l1 := hR3.lt
              simp only [List.getElem?_toArray, List.getElem?_cons_succ, List.getElem?_cons_zero] at q0 q1 q2 q3
              clear h2 hT2 hR3 ht hi3 hr
              gi_wp2_with fail
              have hf1 := H2.out.1.put H2.out.2.2.1 (by omega) (.int .i64 a0) (.int .i64 a1) (.string a2) (.slice a3 am a4)
              have hf2 := H2.out.2.1.put (R := W.heap.size) (by omega) (.int .i64 a0) (.int .i64 a1) (.string a2) (.slice a3 am a4)
              have hf3 := H2.out.2.2.1.set4 (.int .i64 a0) (.int .i64 a1) (.string a2) (.slice a3 am a4)
              have hf4 := H2.out.2.2.2.set4 (show W.heap.size < (w3).heap.size by omega) (.int .i64 a0) (.int .i64 a1) (.string a2) (.slice a3 am a4)
              unfold set4 at hf1 hf2 hf3 hf4
              generalize (((w5.setCell ⟨W.heap.size, 0, none⟩ (.int .i64 a0)).setCell ⟨W.heap.size, 1, none⟩ (.int .i64 a1)).setCell ⟨W.heap.size, 2, none⟩ (.string a2)).setCell ⟨W.heap.size, 3, none⟩ (.slice a3 am a4) = FW at *
              have y0 := hf3.cell 0
              have y1 := hf3.cell 1
              have y2 := hf3.cell 2
              have y3 := hf3.cell 3
              simp only [List.getElem?_toArray, List.getElem?_cons_succ, List.getElem?_cons_zero] at y0 y1 y2 y3
              refine bodyPost_ret (v := .tuple #[.agg #[.int .i64 a0, .int .i64 a1, .string a2, .slice a3 am a4], .int .i64 0]) (by simp [results, Tryz.results190, go_sem, y0, y1, y2, y3]) rfl ?_
              rw [HNF.out, HR.out]
              exact ⟨_, nv2, rfl, ⟨_, rfl, hf4.up (TmK.refl _) (by omega)⟩, hf1, hf2, hi3'⟩
      · have HNF : Hid (namedF tot xs (termN tot xs n) name most st = if isOp name = true then .error (plc tot xs st.i) else match plainF tot xs (termN tot xs n) name st with | .error e => .error e | .ok (t, st') => .ok ((t, 0), st')) := by rw [Hid, HCF.out, if_neg (fun h => hpa h.1)]
        have hA3 := below_a1 (Nat.le_refl w2.heap.size) (.cells #[.int .i64 pa, .int .i64 pb, .int .i64 pc] 48)
        have h3 := H2.out.1.up hA3
        have HH := Lib.hid (fun W' (hB : Below (w2.alloc (.cells #[.int .i64 pa, .int .i64 pb, .int .i64 pc] 48)).heap.size (w2.alloc (.cells #[.int .i64 pa, .int .i64 pb, .int .i64 pc] 48)) W') => And.intro (h3.up hB) (And.intro ((H2.out.2.1.trans (PaTo.up (B := B) (V := V) (nv := nv) hA3)).trans (PaTo.up (B := B) (V := V) (nv := nv) hB)) ((H2.out.2.2.keep hA3).keep hB)))
        have HHAS := Lib.hid (has_any _ _ b1 b2 h3.ops name HNM.out)
        have c3 := h3.box.cell 3
        have c4 := h3.box.cell 4
        have l3 := h3.box.lt
        simp only [List.getElem?_toArray, List.getElem?_cons_succ, List.getElem?_cons_zero] at c3 c4
        clear h3 hA3
        gi_wp2_with fail
        refine CallsIn.mono (callsIn_of_calls hF HHAS.out) ?_
        rintro e w3 ⟨rfl, hB3⟩
        have H3 := Lib.hid (HH.out w3 hB3)
        have hw3 : W.heap.size + 1 ≤ w3.heap.size := by have := (H3.out.2.2).lt; omega
        clear hB3
        cases hop : isOp name with
        | true =>
          rw [hop] at HNF
          have HC := Lib.hid (tooMuch_any H3.out.1 HX.out)
          gi_wp2_with fail
          refine CallsIn.mono (callsIn_of_calls hF HC.out) ?_
          rintro e w4 ⟨rfl, hb⟩
          refine And.intro rfl ?_
          rw [HNF.out]
          exact ⟨rfl, H3.out.1.below.trans (hb.mono H3.out.1.below.size)⟩
        | false =>
          rw [hop] at HNF
          simp only [Bool.false_eq_true, if_false] at HNF
          gi_wp2_with fail
          refine CallsIn.mono (callsIn_of_calls hF (plain_any HT.out H3.out.1 HX.out HN.out hlt name HNM.out)) ?_
          rintro e w5 hQ2
          cases hr : plainF tot xs (termN tot xs n) name st with
          | error p =>
            rw [hr] at hQ2
            obtain ⟨rfl, hb⟩ := hQ2
            refine And.intro rfl ?_
            rw [HNF.out, hr]
            exact ⟨rfl, hb⟩
          | ok x =>
            obtain ⟨t, st2⟩ := x
            rw [hr] at hQ2
            obtain ⟨v2, nv2, rfl, ht, h2, hT2, hi3⟩ := hQ2
            obtain ⟨a0, a1, a2, a3, am, a4, rfl⟩ := IsP.formP ht
            have hR3 := PaTo.box H3.out.1 hT2 H3.out.2.2 (by decide) (by decide)
            have hRW := (H3.out.2.2).lt
            have hi3' : st.i + 1 ≤ st2.i := hi3
            have H2 := Lib.hid (And.intro h2 (And.intro (H3.out.2.1.trans hT2) (And.intro hR3 ht)))
            have HR := Lib.hid hr
            have q0 := hR3.cell 0
            have q1 := hR3.cell 1
            have q2 := hR3.cell 2
            have q3 := hR3.cell 3
            have z0 := hR3.frozen 0
            have z1 := hR3.frozen 1
            have z2 := hR3.frozen 2
            have z3 := hR3.frozen 3
            have l1 := hR3.lt
            simp only [List.getElem?_toArray, List.getElem?_cons_succ, List.getElem?_cons_zero] at q0 q1 q2 q3
            clear h2 hT2 hR3 ht hi3 hr
            gi_wp2_with fail
            have hf1 := H2.out.1.put H2.out.2.2.1 (by omega) (.int .i64 a0) (.int .i64 a1) (.string a2) (.slice a3 am a4)
            have hf2 := H2.out.2.1.put (R := W.heap.size) (by omega) (.int .i64 a0) (.int .i64 a1) (.string a2) (.slice a3 am a4)
            have hf3 := H2.out.2.2.1.set4 (.int .i64 a0) (.int .i64 a1) (.string a2) (.slice a3 am a4)
            have hf4 := H2.out.2.2.2.set4 (show W.heap.size < (w3).heap.size by omega) (.int .i64 a0) (.int .i64 a1) (.string a2) (.slice a3 am a4)
            unfold set4 at hf1 hf2 hf3 hf4
            generalize (((w5.setCell ⟨W.heap.size, 0, none⟩ (.int .i64 a0)).setCell ⟨W.heap.size, 1, none⟩ (.int .i64 a1)).setCell ⟨W.heap.size, 2, none⟩ (.string a2)).setCell ⟨W.heap.size, 3, none⟩ (.slice a3 am a4) = FW at *
            have y0 := hf3.cell 0
            have y1 := hf3.cell 1
            have y2 := hf3.cell 2
            have y3 := hf3.cell 3
            simp only [List.getElem?_toArray, List.getElem?_cons_succ, List.getElem?_cons_zero] at y0 y1 y2 y3
            refine bodyPost_ret (v := .tuple #[.agg #[.int .i64 a0, .int .i64 a1, .string a2, .slice a3 am a4], .int .i64 0]) (by simp [results, Tryz.results190, go_sem, y0, y1, y2, y3]) rfl ?_
            rw [HNF.out, HR.out]
            exact ⟨_, nv2, rfl, ⟨_, rfl, hf4.up (TmK.refl _) (by omega)⟩, hf1, hf2, hi3'⟩
    | true =>
      obtain ⟨gs, gm, hgl⟩ : ∃ gs gm, glue xs st.i = some ⟨.int, gs, gm⟩ := by
        cases hgl : glue xs st.i with
        | none => rw [hgl] at hg; cases hg
        | some t =>
          obtain ⟨k, s, m⟩ := t
          rw [hgl] at hg
          have : k = .int := by simpa [taB] using hg
          subst this
          exact ⟨s, m, rfl⟩
      have hgm : gm ≤ 2147483647 := by
        obtain ⟨h1, h2⟩ := glue_lt hgl
        rw [tokAt_some h1] at h2
        have := (HX.out.tok _ (List.getElem_mem h1)).2.1
        have h3 : xs[st.i + 1].t = ⟨.int, gs, gm⟩ := Option.some.inj h2
        rw [h3] at this
        exact this
      have hta := ta_any .int (some ⟨.int, gs, gm⟩)
      simp only [tokO, tokV, kTy, taV, taB, payV, if_true, decide_true] at hta
      by_cases hnn : name = [45]
      · have HNF := Lib.hid (namedF_num (tot := tot) (most := most) (r := termN tot xs n) HBB.out hnn hgl)
        have hlt2 := (glue_lt hgl).1
        have HGL := Lib.hid hgl
        subst hnn
        obtain ⟨i2, hi3⟩ : ∃ i2, st.i + 2 = i2 := ⟨_, rfl⟩
        have hi4 : ((st.i : Int) + 2) = (i2 : Int) := by omega
        have hwr2 : IntKind.i64.wrap (i2 : Int) = (i2 : Int) := by rw [IntKind.wrap_i64]; omega
        have hwr3 : IntKind.i64.wrap (-(gm : Int)) = -(gm : Int) := by rw [IntKind.wrap_i64]; omega
        have HI3 := Lib.hid hi3
        clear hg hgl hi3
        refine callsIn_of_wp Tryz.func190 rfl (hf _) ?_ hro
        simp only [Tryz.ntmps190, List.size_toArray, List.length_cons, List.length_nil, Nat.reduceAdd, Nat.reduceSub, Array.replicate_succ, Array.replicate_zero, List.push_toArray, List.append_toArray, List.nil_append, List.cons_append]
        gi_wp2_with fail
        refine CallsIn.mono (callsIn_of_calls hF HO.out) ?_
        rintro e w1 ⟨rfl, B1⟩
        rw [HBB.out]
        have H1 := Lib.hid (And.intro (H0.out.1.up B1) (And.intro (H0.out.2.1.trans (PaTo.up (B := B) (V := V) (nv := nv) B1)) (H0.out.2.2.keep B1)))
        have HG := Lib.hid (glued_any H1.out.1 HX.out)
        clear B1
        gi_wp2_with fail
        refine CallsIn.mono (callsIn_of_calls hF HG.out) ?_
        rintro e w2 ⟨rfl, B2⟩
        rw [HGL.out]
        simp only [tokO, tokV]
        have h2 := H1.out.1.up B2
        have hS := h2.setAt i2 (by have := HI3.out; omega) (by have := HI3.out; omega)
        have hR2 := H1.out.2.2.keep B2
        have hTW := (H1.out.2.1.trans (PaTo.up (B := B) (V := V) (nv := nv) B2)).trans hS.2
        have hR3 := hR2.other (fun e => hne1 e) 1 (.int .i64 (i2 : Int))
        have c1 := h2.box.cell 1
        have f1 := h2.box.frozen 1
        have l0 := h2.box.lt
        simp only [List.getElem?_toArray, List.getElem?_cons_succ, List.getElem?_cons_zero] at c1
        have q0 := hR2.cell 0
        have q1 := hR2.cell 1
        have q2 := hR2.cell 2
        have q3 := hR2.cell 3
        have z0 := hR2.frozen 0
        have z1 := hR2.frozen 1
        have z2 := hR2.frozen 2
        have z3 := hR2.frozen 3
        have l1 := hR2.lt
        simp only [List.getElem?_toArray, List.getElem?_cons_succ, List.getElem?_cons_zero] at q0 q1 q2 q3
        have H2 := Lib.hid (And.intro hS.1 (And.intro hTW hR3))
        clear h2 hS hTW hR2 hR3 B2
        gi_wp2_with fail
        have hf1 := H2.out.1.put H2.out.2.2 (by omega) (.int .i64 2) (.int .i64 (-(gm : Int))) (.string ⟨#[]⟩) (.slice none 0 0)
        have hf2 := H2.out.2.1.put (R := W.heap.size) (by omega) (.int .i64 2) (.int .i64 (-(gm : Int))) (.string ⟨#[]⟩) (.slice none 0 0)
        have hf3 := H2.out.2.2.set4 (.int .i64 2) (.int .i64 (-(gm : Int))) (.string ⟨#[]⟩) (.slice none 0 0)
        unfold set4 at hf1 hf2 hf3
        generalize ((((w2.setCell ⟨B, 1, none⟩ (.int .i64 (i2 : Int))).setCell ⟨W.heap.size, 0, none⟩ (.int .i64 2)).setCell ⟨W.heap.size, 1, none⟩ (.int .i64 (-(gm : Int)))).setCell ⟨W.heap.size, 2, none⟩ (.string ⟨#[]⟩)).setCell ⟨W.heap.size, 3, none⟩ (.slice none 0 0) = FW at *
        have y0 := hf3.cell 0
        have y1 := hf3.cell 1
        have y2 := hf3.cell 2
        have y3 := hf3.cell 3
        simp only [List.getElem?_toArray, List.getElem?_cons_succ, List.getElem?_cons_zero] at y0 y1 y2 y3
        refine bodyPost_ret (v := .tuple #[.agg #[.int .i64 2, .int .i64 (-(gm : Int)), .string ⟨#[]⟩, .slice none 0 0], .int .i64 0]) (by simp [results, Tryz.results190, go_sem, y0, y1, y2, y3]) rfl ?_
        rw [HNF.out]
        exact ⟨_, nv, rfl, ⟨_, rfl, tval.leaf (by unfold okI; omega) (by unfold okI; omega) (by decide) (by unfold maxLen; omega)⟩, by rw [HI3.out]; exact hf1, hf2, by show st.i + 1 ≤ st.i + 2; omega⟩
      · have HCF := Lib.hid (namedF_cont (tot := tot) (xs := xs) (st := st) (most := most) (name := name) (r := termN tot xs n) HBB.out (fun h => hnn h.1))
        rw [HPV.out] at HCF
        have HGL := Lib.hid hgl
        have n1 := sV_ne hnn
        have m1 : (name == [45]) = false := by simpa using hnn
        clear hg hgl hnn
        refine callsIn_of_wp Tryz.func190 rfl (hf _) ?_ hro
        simp only [Tryz.ntmps190, List.size_toArray, List.length_cons, List.length_nil, Nat.reduceAdd, Nat.reduceSub, Array.replicate_succ, Array.replicate_zero, List.push_toArray, List.append_toArray, List.nil_append, List.cons_append]
        gi_wp2_with fail
        refine CallsIn.mono (callsIn_of_calls hF HO.out) ?_
        rintro e w1 ⟨rfl, B1⟩
        rw [HBB.out]
        have H1 := Lib.hid (And.intro (H0.out.1.up B1) (And.intro (H0.out.2.1.trans (PaTo.up (B := B) (V := V) (nv := nv) B1)) (H0.out.2.2.keep B1)))
        have HG := Lib.hid (glued_any H1.out.1 HX.out)
        clear B1
        gi_wp2_with fail
        refine CallsIn.mono (callsIn_of_calls hF HG.out) ?_
        rintro e w2 ⟨rfl, B2⟩
        rw [HGL.out]
        simp only [tokO, tokV]
        have H2 := Lib.hid (And.intro (H1.out.1.up B2) (And.intro (H1.out.2.1.trans (PaTo.up (B := B) (V := V) (nv := nv) B2)) (H1.out.2.2.keep B2)))
        clear B2
        have h1w := H2.out.1
        obtain ⟨o1, o2, o3, ⟨m1, o4⟩, m2, o5⟩ := h1w.ops
        have hlk := o5.look ⟨name.toArray⟩ hks
        rw [show (tabF opsP (⟨name.toArray⟩ : ByteArray).data.toList).getD (0, 0, 0) = (pa, pb, pc) from HPV.out] at hlk
        simp only [opV] at hlk
        have c4 := h1w.box.cell 4
        have c1 := h1w.box.cell 1
        have f1 := h1w.box.frozen 1
        have l0 := h1w.box.lt
        simp only [List.getElem?_toArray, List.getElem?_cons_succ, List.getElem?_cons_zero] at c4 c1
        clear h1w o1 o2 o3 o4 o5
        by_cases hpa : 0 < pa
        · by_cases hpm : pa ≤ most
          · have hpp : 0 ≤ pc ∧ pc ≤ 10000 := HPC.out
            have HNF : Hid (namedF tot xs (termN tot xs n) name most st = match termN tot xs n pc ⟨i1, st.ns⟩ with | .error e => .error e | .ok (t, st') => .ok ((fn name [t], pa), st')) := by rw [Hid, HCF.out, if_pos ⟨hpa, hpm⟩, HI.out]
            gi_wp2_with fail
            have hBlt := H2.out.1.box.lt
            have hRlt := H2.out.2.2.lt
            have hszS : (w2.setCell ⟨B, 1, none⟩ (.int .i64 (i1 : Int))).heap.size = w2.heap.size := by simp
            have hS := H2.out.1.setAt i1 (by have := HI.out; omega) (by have := HI.out; omega)
            have hR4 := H2.out.2.2.other (fun e => hne1 e) 1 (.int .i64 (i1 : Int))
            have hTS := H2.out.2.1.trans hS.2
            have hR1n : W.heap.size ≠ w2.heap.size := by omega
            have hlo3 : W.heap.size + 1 ≤ ((w2.setCell ⟨B, 1, none⟩ (.int .i64 (i1 : Int))).alloc (.cells #[.int .i64 pa, .int .i64 pb, .int .i64 pc] 48)).heap.size := by simp; omega
            generalize w2.setCell ⟨B, 1, none⟩ (.int .i64 (i1 : Int)) = w3 at *
            have hA3 := below_a1 (Nat.le_refl w3.heap.size) (.cells #[.int .i64 pa, .int .i64 pb, .int .i64 pc] 48)
            have hop0 : Box (w3.alloc (.cells #[.int .i64 pa, .int .i64 pb, .int .i64 pc] 48)) w3.heap.size #[.int .i64 pa, .int .i64 pb, .int .i64 pc] 48 := World.alloc_heap_new _ _
            rw [hszS] at hop0
            have H3 := Lib.hid (And.intro (hS.1.up hA3) (And.intro (hTS.trans (PaTo.up (B := B) (V := V) (nv := nv) hA3)) (And.intro hop0 (hR4.keep hA3))))
            clear hS hTS hop0 hR4 hA3 c1 f1 l0 hszS
            generalize hR1 : w2.heap.size = R1 at *
            generalize w3.alloc (.cells #[.int .i64 pa, .int .i64 pb, .int .i64 pc] 48) = W3 at *
            refine Pan.wpIn_region_all 4 9 (fun k => k == 9 || k == 10) (fun k => decide (k < 7) && !(k == 4)) [.det (sV name), .det (.pointer (some ⟨B, 0, none⟩)), .det (.pointer (some ⟨R1, 2, none⟩)), .det (.int .i64 pc), .any (YT (W.heap.size + 1) (termN tot xs n pc ⟨i1, st.ns⟩) id), .any (YL (W.heap.size + 1) (termN tot xs n pc ⟨i1, st.ns⟩) (fun t => [t])), .any (YT (W.heap.size + 1) (termN tot xs n pc ⟨i1, st.ns⟩) (fun t => fn name [t])), .det (.pointer (some ⟨R1, 0, none⟩)), .det (.int .i64 pa), .det undef, .det (.int .i64 pa)]
              (RegX w (termN tot xs n pc ⟨i1, st.ns⟩)) (FarK (W.heap.size + 1)) (RegC w B b1 b2 V tot xs pv nv W W3 W.heap.size R1 (W.heap.size + 1) (.int .i64 0) (.int .i64 0) (.string ⟨#[]⟩) (.slice none 0 0) pa pb pc (i1 + 1) (termN tot xs n pc ⟨i1, st.ns⟩) (fun t => fn name [t]) (fun _ => True)) hf hd (fun k f args w R h => callsIn_of_calls hF h) (by kernel_rfl) (by kernel_rfl) (by simp) (by omega) (by kernel_rfl) (by kernel_rfl) (by kernel_rfl) ?hys (RegC.start H3.out.2.2.1 hlo3 H3.out.2.2.2 trivial) ?hX ?_
            case hys =>
              intro i b _
              match i with
              | 0 => trivial | 1 => trivial | 2 => trivial | 3 => trivial
              | 4 => exact YT.stable _ _ _ _
              | 5 => exact YL.stable _ _ _ _
              | 6 => exact YT.stable _ _ _ _
              | 7 => trivial | 8 => trivial | 9 => trivial | 10 => trivial
              | i + 11 => intro _ _ _ _ _; trivial
            case hX =>
              rintro ch a' w9 hD ⟨p, hr, hch, hb⟩
              refine And.intro hD ?_
              rw [HNF.out, hr, hch]
              exact ⟨rfl, hb⟩
            iterate 4 (
              refine Pan.wpR_step (fun K hK => ?_)
              go_simp
              apply And.intro
              · rw [Pan.yieldsR, if_neg (by decide), if_neg (by decide), if_neg (by decide), if_pos (by decide)]
                intro ph w' hph hC _
                have hop := hC.op
                have p0 := hop.1.cell 0
                have p1 := hop.1.cell 1
                have p2 := hop.1.cell 2
                have lp := hop.1.lt
                simp only [List.getElem?_toArray, List.getElem?_cons_succ, List.getElem?_cons_zero] at p0 p1 p2
                have Hq := Lib.hid hC
                clear hC hop
                go_simp
                first | exact ⟨FarK.refl _ _ _, Hq.out⟩ | exact ⟨FarK.refl _ _ _, Hq.out, rfl⟩
              refine nextM_det (hK _ _ ?_)
              clear hK K)
            refine Pan.wpR_step (fun K hK => ?_)
            go_simp
            apply And.intro
            · rw [Pan.yieldsR, if_pos rfl]
              intro w' hC _
              have hE := hC.2
              rw [if_pos rfl] at hE
              have hS := HT.out pc ⟨i1, st.ns⟩ nv w' hpp.1 hpp.2 (H3.out.1.up hE.1) HN1.out
              have Hq := Lib.hid hC
              clear hC hE
              go_simp
              refine hS.mono ?_
              intro e w'' hQ
              exact RegC.call (fun _ _ _ _ => trivial) H3.out.1 H3.out.2.1 (Nat.le_refl _) Hq.out hQ
            refine nextM_any (fun y4 => hK _ _ ?_)
            clear hK K
            refine Pan.wpR_step (fun K hK => ?_)
            go_simp
            apply And.intro
            · rw [Pan.yieldsR, if_neg (by decide), if_neg (by decide), if_neg (by decide), if_pos (by decide)]
              intro ph w' hph hC hd'
              have hy : YT (W.heap.size + 1) (termN tot xs n pc ⟨i1, st.ns⟩) id y4 w' := hd' ⟨4, .data⟩ (by simp) rfl y4 rfl
              have hl0 := hy.1
              obtain ⟨-, t4, st4, hr4, ht4⟩ := hy
              obtain ⟨d0, d1, d2, d3, dm, d4, rfl⟩ := IsP.formP ht4
              have Hq := Lib.hid (And.intro hC hr4)
              clear hC hd' hr4
              go_simp
              refine ⟨FarK.of_ext (below_a1 (Nat.le_refl _) _), RegC.ext hph (fun _ _ _ _ => trivial) Hq.out.1 (below_a1 (Nat.le_refl _) _), ?_⟩
              exact ⟨by simp; omega, t4, st4, Hq.out.2, lval.one ht4 hl0⟩
            refine nextM_any (fun y5 => hK _ _ ?_)
            clear hK K
            refine Pan.wpR_step (fun K hK => ?_)
            go_simp
            apply And.intro
            · rw [Pan.yieldsR, if_neg (by decide), if_neg (by decide), if_neg (by decide), if_pos (by decide)]
              intro ph w' hph hC hd'
              have hy : YL (W.heap.size + 1) (termN tot xs n pc ⟨i1, st.ns⟩) (fun t => [t]) y5 w' := hd' ⟨5, .data⟩ (by simp) rfl y5 rfl
              have hl0 := hy.1
              obtain ⟨-, t4, st4, hr4, ht4⟩ := hy
              have hS := structure_any name HNM.out _ y5 _ w' hl0 ht4
              obtain ⟨ya, yc, rfl, -⟩ := ht4
              have Hq := Lib.hid (And.intro hC hr4)
              clear hC hd' hr4
              go_simp
              refine hS.mono ?_
              rintro e w'' ⟨u, rfl, hu, hB⟩
              exact .inl ⟨u, rfl, FarK.of_ext hB, RegC.ext hph (fun _ _ _ _ => trivial) Hq.out.1 hB, Nat.le_trans hl0 hB.size, t4, st4, Hq.out.2, hu⟩
            refine nextM_any (fun y6 => hK _ _ ?_)
            clear hK K
            iterate 2 (
              refine Pan.wpR_step (fun K hK => ?_)
              go_simp
              apply And.intro
              · rw [Pan.yieldsR, if_neg (by decide), if_neg (by decide), if_neg (by decide), if_neg (by decide)]
                intro ph w' hC _
                have hop := hC.op
                have p0 := hop.1.cell 0
                have p1 := hop.1.cell 1
                have p2 := hop.1.cell 2
                have lp := hop.1.lt
                simp only [List.getElem?_toArray, List.getElem?_cons_succ, List.getElem?_cons_zero] at p0 p1 p2
                have Hq := Lib.hid hC
                clear hC hop
                go_simp
                first | exact ⟨FarK.refl _ _ _, Hq.out⟩ | exact ⟨FarK.refl _ _ _, Hq.out, rfl⟩
              refine nextM_det (hK _ _ ?_)
              clear hK K)
            refine Pan.wpR_step (fun K hK => ?_)
            go_simp
            apply And.intro
            · rw [Pan.yieldsR, if_neg (by decide), if_pos rfl]
              intro w' hC hd'
              have hy : YT (W.heap.size + 1) (termN tot xs n pc ⟨i1, st.ns⟩) (fun t => fn name [t]) y6 w' := hd' ⟨6, .data⟩ (by simp) rfl y6 rfl
              obtain ⟨d0, d1, d2, d3, dm, d4, rfl⟩ := IsP.formP hy.2.choose_spec.choose_spec.2
              have hst := RegC.store (by omega) (by omega) (Nat.le_refl _) (fun e => hR1n e.symm) hC hy
              have hbx := (hC.old (by omega)).1
              have Hq := Lib.hid hst
              have q0 := hbx.cell 0
              have q1 := hbx.cell 1
              have q2 := hbx.cell 2
              have q3 := hbx.cell 3
              have z0 := hbx.frozen 0
              have z1 := hbx.frozen 1
              have z2 := hbx.frozen 2
              have z3 := hbx.frozen 3
              have l1 := hbx.lt
              simp only [List.getElem?_toArray, List.getElem?_cons_succ, List.getElem?_cons_zero] at q0 q1 q2 q3
              clear hC hd' hst hbx hy
              unfold set4 at Hq
              go_simp
              first | exact ⟨Hq.out.1, Hq.out.2⟩ | exact ⟨Hq.out.1, Hq.out.2, rfl⟩
            refine nextM_det (hK _ _ ?_)
            clear hK K
            refine Pan.wpR_step (fun K hK => ?_)
            go_simp
            apply And.intro
            · rw [Pan.yieldsR, if_neg (by decide), if_neg (by decide), if_pos (by decide)]
              intro w' hC _
              have Hq := Lib.hid hC
              clear hC
              go_simp
              first | exact ⟨FarK.refl _ _ _, Hq.out⟩ | exact ⟨FarK.refl _ _ _, Hq.out, rfl⟩
            refine nextM_det (hK _ _ ?_)
            clear hK K
            refine Pan.wpR_nil (fun w9 hC _ => ?_)
            obtain ⟨hop9, t9, st9, nv9, a0, a1, a2, a3, hr9, h9, hT9, hi9, hb9, ht9⟩ := hC.done
            clear hC
            obtain ⟨g0, g1, g2, g3, gm, g4, e⟩ := IsP.formP ht9
            cases e
            have y0 := hb9.cell 0
            have y1 := hb9.cell 1
            have y2 := hb9.cell 2
            have y3 := hb9.cell 3
            have l9 := hb9.lt
            simp only [List.getElem?_toArray, List.getElem?_cons_succ, List.getElem?_cons_zero] at y0 y1 y2 y3
            have H9 := Lib.hid (And.intro h9 (And.intro hT9 (And.intro ht9 hr9)))
            clear h9 hT9 ht9 hr9 hop9 hb9
            gi_wp2_with fail
            refine bodyPost_ret (v := .tuple #[.agg #[.int .i64 g0, .int .i64 g1, .string g2, .slice g3 gm g4], .int .i64 pa]) (by simp [results, Tryz.results190, go_sem, y0, y1, y2, y3]) rfl ?_
            rw [HNF.out, H9.out.2.2.2]
            exact ⟨_, nv9, rfl, ⟨_, rfl, H9.out.2.2.1.up (TmK.refl _) (by omega)⟩, H9.out.1, H9.out.2.1, by have := HI.out; omega⟩
          · have HNF : Hid (namedF tot xs (termN tot xs n) name most st = if isOp name = true then .error (plc tot xs st.i) else match plainF tot xs (termN tot xs n) name st with | .error e => .error e | .ok (t, st') => .ok ((t, 0), st')) := by rw [Hid, HCF.out, if_neg (fun h => hpm h.2)]
            have hA3 := below_a1 (Nat.le_refl w2.heap.size) (.cells #[.int .i64 pa, .int .i64 pb, .int .i64 pc] 48)
            have h3 := H2.out.1.up hA3
            have HH := Lib.hid (fun W' (hB : Below (w2.alloc (.cells #[.int .i64 pa, .int .i64 pb, .int .i64 pc] 48)).heap.size (w2.alloc (.cells #[.int .i64 pa, .int .i64 pb, .int .i64 pc] 48)) W') => And.intro (h3.up hB) (And.intro ((H2.out.2.1.trans (PaTo.up (B := B) (V := V) (nv := nv) hA3)).trans (PaTo.up (B := B) (V := V) (nv := nv) hB)) ((H2.out.2.2.keep hA3).keep hB)))
            have HHAS := Lib.hid (has_any _ _ b1 b2 h3.ops name HNM.out)
            have c3 := h3.box.cell 3
            have c4 := h3.box.cell 4
            have l3 := h3.box.lt
            simp only [List.getElem?_toArray, List.getElem?_cons_succ, List.getElem?_cons_zero] at c3 c4
            clear h3 hA3
            gi_wp2_with fail
            refine CallsIn.mono (callsIn_of_calls hF HHAS.out) ?_
            rintro e w3 ⟨rfl, hB3⟩
            have H3 := Lib.hid (HH.out w3 hB3)
            have hw3 : W.heap.size + 1 ≤ w3.heap.size := by have := (H3.out.2.2).lt; omega
            clear hB3
            cases hop : isOp name with
            | true =>
              rw [hop] at HNF
              have HC := Lib.hid (tooMuch_any H3.out.1 HX.out)
              gi_wp2_with fail
              refine CallsIn.mono (callsIn_of_calls hF HC.out) ?_
              rintro e w4 ⟨rfl, hb⟩
              refine And.intro rfl ?_
              rw [HNF.out]
              exact ⟨rfl, H3.out.1.below.trans (hb.mono H3.out.1.below.size)⟩
            | false =>
              rw [hop] at HNF
              simp only [Bool.false_eq_true, if_false] at HNF
              gi_wp2_with fail
              refine CallsIn.mono (callsIn_of_calls hF (plain_any HT.out H3.out.1 HX.out HN.out hlt name HNM.out)) ?_
              rintro e w5 hQ2
              cases hr : plainF tot xs (termN tot xs n) name st with
              | error p =>
                rw [hr] at hQ2
                obtain ⟨rfl, hb⟩ := hQ2
                refine And.intro rfl ?_
                rw [HNF.out, hr]
                exact ⟨rfl, hb⟩
              | ok x =>
                obtain ⟨t, st2⟩ := x
                rw [hr] at hQ2
                obtain ⟨v2, nv2, rfl, ht, h2, hT2, hi3⟩ := hQ2
                obtain ⟨a0, a1, a2, a3, am, a4, rfl⟩ := IsP.formP ht
                have hR3 := PaTo.box H3.out.1 hT2 H3.out.2.2 (by decide) (by decide)
                have hRW := (H3.out.2.2).lt
                have hi3' : st.i + 1 ≤ st2.i := hi3
                have H2 := Lib.hid (And.intro h2 (And.intro (H3.out.2.1.trans hT2) (And.intro hR3 ht)))
                have HR := Lib.hid hr
                have q0 := hR3.cell 0
                have q1 := hR3.cell 1
                have q2 := hR3.cell 2
                have q3 := hR3.cell 3
                have z0 := hR3.frozen 0
                have z1 := hR3.frozen 1
                have z2 := hR3.frozen 2
                have z3 := hR3.frozen 3
                have l1 := hR3.lt
                simp only [List.getElem?_toArray, List.getElem?_cons_succ, List.getElem?_cons_zero] at q0 q1 q2 q3
                clear h2 hT2 hR3 ht hi3 hr
                gi_wp2_with fail
                have hf1 := H2.out.1.put H2.out.2.2.1 (by omega) (.int .i64 a0) (.int .i64 a1) (.string a2) (.slice a3 am a4)
                have hf2 := H2.out.2.1.put (R := W.heap.size) (by omega) (.int .i64 a0) (.int .i64 a1) (.string a2) (.slice a3 am a4)
                have hf3 := H2.out.2.2.1.set4 (.int .i64 a0) (.int .i64 a1) (.string a2) (.slice a3 am a4)
                have hf4 := H2.out.2.2.2.set4 (show W.heap.size < (w3).heap.size by omega) (.int .i64 a0) (.int .i64 a1) (.string a2) (.slice a3 am a4)
                unfold set4 at hf1 hf2 hf3 hf4
                generalize (((w5.setCell ⟨W.heap.size, 0, none⟩ (.int .i64 a0)).setCell ⟨W.heap.size, 1, none⟩ (.int .i64 a1)).setCell ⟨W.heap.size, 2, none⟩ (.string a2)).setCell ⟨W.heap.size, 3, none⟩ (.slice a3 am a4) = FW at *
                have y0 := hf3.cell 0
                have y1 := hf3.cell 1
                have y2 := hf3.cell 2
                have y3 := hf3.cell 3
                simp only [List.getElem?_toArray, List.getElem?_cons_succ, List.getElem?_cons_zero] at y0 y1 y2 y3
                refine bodyPost_ret (v := .tuple #[.agg #[.int .i64 a0, .int .i64 a1, .string a2, .slice a3 am a4], .int .i64 0]) (by simp [results, Tryz.results190, go_sem, y0, y1, y2, y3]) rfl ?_
                rw [HNF.out, HR.out]
                exact ⟨_, nv2, rfl, ⟨_, rfl, hf4.up (TmK.refl _) (by omega)⟩, hf1, hf2, hi3'⟩
        · have HNF : Hid (namedF tot xs (termN tot xs n) name most st = if isOp name = true then .error (plc tot xs st.i) else match plainF tot xs (termN tot xs n) name st with | .error e => .error e | .ok (t, st') => .ok ((t, 0), st')) := by rw [Hid, HCF.out, if_neg (fun h => hpa h.1)]
          have hA3 := below_a1 (Nat.le_refl w2.heap.size) (.cells #[.int .i64 pa, .int .i64 pb, .int .i64 pc] 48)
          have h3 := H2.out.1.up hA3
          have HH := Lib.hid (fun W' (hB : Below (w2.alloc (.cells #[.int .i64 pa, .int .i64 pb, .int .i64 pc] 48)).heap.size (w2.alloc (.cells #[.int .i64 pa, .int .i64 pb, .int .i64 pc] 48)) W') => And.intro (h3.up hB) (And.intro ((H2.out.2.1.trans (PaTo.up (B := B) (V := V) (nv := nv) hA3)).trans (PaTo.up (B := B) (V := V) (nv := nv) hB)) ((H2.out.2.2.keep hA3).keep hB)))
          have HHAS := Lib.hid (has_any _ _ b1 b2 h3.ops name HNM.out)
          have c3 := h3.box.cell 3
          have c4 := h3.box.cell 4
          have l3 := h3.box.lt
          simp only [List.getElem?_toArray, List.getElem?_cons_succ, List.getElem?_cons_zero] at c3 c4
          clear h3 hA3
          gi_wp2_with fail
          refine CallsIn.mono (callsIn_of_calls hF HHAS.out) ?_
          rintro e w3 ⟨rfl, hB3⟩
          have H3 := Lib.hid (HH.out w3 hB3)
          have hw3 : W.heap.size + 1 ≤ w3.heap.size := by have := (H3.out.2.2).lt; omega
          clear hB3
          cases hop : isOp name with
          | true =>
            rw [hop] at HNF
            have HC := Lib.hid (tooMuch_any H3.out.1 HX.out)
            gi_wp2_with fail
            refine CallsIn.mono (callsIn_of_calls hF HC.out) ?_
            rintro e w4 ⟨rfl, hb⟩
            refine And.intro rfl ?_
            rw [HNF.out]
            exact ⟨rfl, H3.out.1.below.trans (hb.mono H3.out.1.below.size)⟩
          | false =>
            rw [hop] at HNF
            simp only [Bool.false_eq_true, if_false] at HNF
            gi_wp2_with fail
            refine CallsIn.mono (callsIn_of_calls hF (plain_any HT.out H3.out.1 HX.out HN.out hlt name HNM.out)) ?_
            rintro e w5 hQ2
            cases hr : plainF tot xs (termN tot xs n) name st with
            | error p =>
              rw [hr] at hQ2
              obtain ⟨rfl, hb⟩ := hQ2
              refine And.intro rfl ?_
              rw [HNF.out, hr]
              exact ⟨rfl, hb⟩
            | ok x =>
              obtain ⟨t, st2⟩ := x
              rw [hr] at hQ2
              obtain ⟨v2, nv2, rfl, ht, h2, hT2, hi3⟩ := hQ2
              obtain ⟨a0, a1, a2, a3, am, a4, rfl⟩ := IsP.formP ht
              have hR3 := PaTo.box H3.out.1 hT2 H3.out.2.2 (by decide) (by decide)
              have hRW := (H3.out.2.2).lt
              have hi3' : st.i + 1 ≤ st2.i := hi3
              have H2 := Lib.hid (And.intro h2 (And.intro (H3.out.2.1.trans hT2) (And.intro hR3 ht)))
              have HR := Lib.hid hr
              have q0 := hR3.cell 0
              have q1 := hR3.cell 1
              have q2 := hR3.cell 2
              have q3 := hR3.cell 3
              have z0 := hR3.frozen 0
              have z1 := hR3.frozen 1
              have z2 := hR3.frozen 2
              have z3 := hR3.frozen 3
              have l1 := hR3.lt
              simp only [List.getElem?_toArray, List.getElem?_cons_succ, List.getElem?_cons_zero] at q0 q1 q2 q3
              clear h2 hT2 hR3 ht hi3 hr
              gi_wp2_with fail
              have hf1 := H2.out.1.put H2.out.2.2.1 (by omega) (.int .i64 a0) (.int .i64 a1) (.string a2) (.slice a3 am a4)
              have hf2 := H2.out.2.1.put (R := W.heap.size) (by omega) (.int .i64 a0) (.int .i64 a1) (.string a2) (.slice a3 am a4)
              have hf3 := H2.out.2.2.1.set4 (.int .i64 a0) (.int .i64 a1) (.string a2) (.slice a3 am a4)
              have hf4 := H2.out.2.2.2.set4 (show W.heap.size < (w3).heap.size by omega) (.int .i64 a0) (.int .i64 a1) (.string a2) (.slice a3 am a4)
              unfold set4 at hf1 hf2 hf3 hf4
              generalize (((w5.setCell ⟨W.heap.size, 0, none⟩ (.int .i64 a0)).setCell ⟨W.heap.size, 1, none⟩ (.int .i64 a1)).setCell ⟨W.heap.size, 2, none⟩ (.string a2)).setCell ⟨W.heap.size, 3, none⟩ (.slice a3 am a4) = FW at *
              have y0 := hf3.cell 0
              have y1 := hf3.cell 1
              have y2 := hf3.cell 2
              have y3 := hf3.cell 3
              simp only [List.getElem?_toArray, List.getElem?_cons_succ, List.getElem?_cons_zero] at y0 y1 y2 y3
              refine bodyPost_ret (v := .tuple #[.agg #[.int .i64 a0, .int .i64 a1, .string a2, .slice a3 am a4], .int .i64 0]) (by simp [results, Tryz.results190, go_sem, y0, y1, y2, y3]) rfl ?_
              rw [HNF.out, HR.out]
              exact ⟨_, nv2, rfl, ⟨_, rfl, hf4.up (TmK.refl _) (by omega)⟩, hf1, hf2, hi3'⟩
end
end Go.Proofs.YthfciekhmbfmfaaGreatDoor
