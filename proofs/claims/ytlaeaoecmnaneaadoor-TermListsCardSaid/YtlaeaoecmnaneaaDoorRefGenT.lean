/- The least general term of two: the second reading of general, whole. -/
import Derived.Test.YtlaeaoecmnaneaaDoorRefGen
import Derived.Test.YtlaeaoecmnaneaaDoorGenT
namespace Go.Proofs.YtlaeaoecmnaneaaDoor
open Go.RowKit Go

attribute [local go_sem] Oper.semAt_some uponP Yld.says monoUpon

theorem zip_len {la lb : List Tr} (h : la.length = lb.length) : (List.zipWith key2 la lb).length = la.length := by simp; omega

set_option maxRecDepth 100000 in
set_option maxHeartbeats 16000000 in
theorem refGeneral1_any (n₀ P : Nat) (X : Tr) : ∀ (U : Tr) (vx vu va vb : Value) (la lb : List Tr) (w : World), IsT n₀ w X vx → IsT n₀ w U vu → Prs n₀ P w va vb la lb → la.length = lb.length → n₀ ≤ w.heap.size → la.length + X.size ≤ 1000000 →
    Calls Tryd.prog 110 #[vx, vu, .pointer (some ⟨P, 0, none⟩)] w (GgPost n₀ P X U va vb la lb w) := by
  induction X using Tr.ind with
  | h k n s l ih =>
    intro U vx vu va vb la lb w hx hu hp hlab hn hsz
    cases U with
    | node k' n' s' l' =>
    simp only [Tr.size] at hsz
    by_cases hv : k = 1 ∨ topT (.node k n s l) (.node k' n' s' l') = false
    · exact refGeneralV_any n₀ P k n s l k' n' s' l' vx vu va vb la lb w hx hu hp hlab hn (by omega) hv
    · have hk : k ≠ 1 := fun e => hv (.inl e)
      have ht : topT (.node k n s l) (.node k' n' s' l') = true := by
        cases h : topT (.node k n s l) (.node k' n' s' l') with
        | true => rfl
        | false => exact absurd (.inr h) hv
      have hgen : ∀ ks, genT (.node k n s l) (.node k' n' s' l') ks = (.node k n s (genL l l' ks).1, (genL l l' ks).2) := fun ks => by rw [genT, if_neg hv]; rfl
      clear hv
      have hh : k = k' ∧ n = n' ∧ s = s' ∧ l.length = l'.length := by simpa [topT, topB] using ht
      clear ht
      obtain ⟨rfl, rfl, rfl, hll⟩ := hh
      obtain ⟨a, c, rfl, h1, h2, h3, hlc, hcm, hl⟩ := hx.open
      obtain ⟨a', c', rfl, h1', h2', h3', hlc', hcm', hl'⟩ := hu.open
      have hlm : l.length ≤ 9223372036854775807 := by unfold maxLen at hcm; omega
      have hlm' : l'.length ≤ 9223372036854775807 := by unfold maxLen at hcm'; omega
      have HOK := Lib.hid (And.intro h1 (And.intro h2 h3))
      have HI := Lib.hid ih
      have hlz := length_le_sizeL l
      have f1 : (k != 1) = true := by simpa using hk
      have f5 : (((l.length : Nat) : Int) == (l'.length : Nat)) = true := by simp [hll]
      have HLL := Lib.hid hll
      have HL := Lib.hid (And.intro hl hl')
      clear hx hu h1 h2 h3 h1' h2' h3' hl hl' ih hk hll
      obtain ⟨ga, gc, rfl⟩ := hp.ra.form
      obtain ⟨gb, gcb, rfl⟩ := hp.rb.form
      obtain ⟨ks, hks⟩ : ∃ ks, List.zipWith key2 la lb = ks := ⟨_, rfl⟩
      have hksl := zip_len hlab
      rw [hks] at hksl
      have HGEN := Lib.hid (hgen ks)
      have HKS := Lib.hid (And.intro hks (And.intro hksl hlab))
      clear hgen
      have hS0 : GtAt n₀ P w (.slice ga la.length gc) (.slice gb lb.length gcb) #[.int .i64 k, .int .i64 n, .string s, .slice a l.length c] #[.int .i64 k, .int .i64 n, .string s, .slice a' l'.length c'] (k) (n) s l l' ks 0 (.slice none 0 0) [] (.slice ga la.length gc) (.slice gb lb.length gcb) la lb ((((w.alloc (.cells #[.int .i64 k, .int .i64 n, .string s, .slice a l.length c] 25)).alloc (.cells #[.int .i64 k, .int .i64 n, .string s, .slice a' l'.length c'] 25)).alloc (.cells #[.int .i64 0, .int .i64 0, .string ⟨#[]⟩, .slice none 0 0] 25)).alloc (.cells #[.int .i64 k, .int .i64 n, .string s, .slice none 0 0] 25)) := by
        have h0 := (GsAt.start #[.int .i64 k, .int .i64 n, .string s, .slice a l.length c] #[.int .i64 k, .int .i64 n, .string s, .slice a' l'.length c'] hp hn).keep (below_a1 (Nat.le_refl _) (.cells #[.int .i64 k, .int .i64 n, .string s, .slice none 0 0] 25))
        have e0 : genL (l.take 0) (l'.take 0) ks = ([], ks) := by simp [genL]
        exact ⟨h0, hlab, by rw [e0, hks], Box.at (by simp), World.ownsRow_nil _ _ _ _, by rw [e0]; rfl, by rw [e0]; exact LaidR.nil, fun b e => (by cases e), fun _ e => .inl e, fun _ e => .inl e⟩
      have HS0 := Lib.hid hS0
      clear hS0 hp hlab hks hksl
      refine (callsIn_wide (n := 9)).1 ?_
      generalize hF : Fence.wide = F
      have hd : F.depth = none := by subst hF; rfl
      have hf : ∀ f, F.fn f := fun f => by subst hF; trivial
      have hro : F.round = none := by subst hF; rfl
      refine callsIn_of_wp Tryd.func110 rfl (hf _) ?_ hro
      simp only [Tryd.ntmps110, List.size_toArray, List.length_cons, List.length_nil, Nat.reduceAdd, Nat.reduceSub, Array.replicate_succ, Array.replicate_zero, List.push_toArray, List.append_toArray, List.nil_append, List.cons_append]
      gi_wp2_with fail
      gi_loopw [8] (fun i wr => ∃ (j : Nat) (ov : Value) (xs : List Value) (ua ub : Value) (la' lb' : List Tr), j ≤ l.length ∧ i = .int .i64 j ∧ GtAt n₀ P w (.slice ga la.length gc) (.slice gb lb.length gcb) #[.int .i64 k, .int .i64 n, .string s, .slice a l.length c] #[.int .i64 k, .int .i64 n, .string s, .slice a' l'.length c'] (k) (n) s l l' ks j ov xs ua ub la' lb' wr) (fun i _ => l.length - (intOf i).toNat)
      case atStart => exact ⟨0, _, _, _, _, _, _, Nat.zero_le _, rfl, HS0.out⟩
      case round =>
        clear HS0
        obtain ⟨j, ov, xs, ua, ub, la', lb', hj, rfl, hS⟩ := hrel
        have HA := Lib.hid hS
        have c3 := hS.gs.b0.cell 3
        have l0 := hS.gs.b0.lt
        have l1 := hS.gs.b1.lt
        have l3 := hS.b3.lt
        simp only [List.getElem?_toArray, List.getElem?_cons_succ, List.getElem?_cons_zero] at c3
        have hBr := hS.gs.below
        have hws := hS.gs.k3.size
        clear hS
        by_cases hlt : j < l.length
        · have hlt' : j < l'.length := by have := HLL.out; omega
          obtain ⟨b, off, rfl, hbb⟩ := HL.out.1.addr (by omega)
          obtain ⟨b', off', rfl, hbb'⟩ := HL.out.2.addr (by omega)
          obtain ⟨tk, tn, ts, tl, ta, tc, te, d0, d1, d2, d3, ht⟩ := HL.out.1.node' hbb hBr j hlt
          obtain ⟨uk, un, us, ul, ua0, uc, ue, e0, e1, e2, e3, hu⟩ := HL.out.2.node' hbb' hBr j hlt'
          have hbw : b < wr.heap.size := by omega
          have hbw' : b' < wr.heap.size := by omega
          have hcount : la'.length + (l[j]).size ≤ 1000000 := by
            have h1 := zip_len HA.out.len
            rw [HA.out.zip] at h1
            have h2 := genL_keys (l.take j) (l'.take j) ks
            have h3 := sizeL_take_add hlt
            have h4 := HKS.out.2.1
            omega
          obtain ⟨R, hR⟩ : ∃ R, genT l[j] l'[j] (genL (l.take j) (l'.take j) ks).2 = R := ⟨_, rfl⟩
          have hrov := HA.out.rov
          have hcall : ∀ w', D3 wr P ua ub ov 0 w' → Calls Tryd.prog 110 #[.agg #[.int .i64 tk, .int .i64 tn, .string ts, .slice ta tl.length tc], .agg #[.int .i64 uk, .int .i64 un, .string us, .slice ua0 ul.length uc], .pointer (some ⟨P, 0, none⟩)] w' (fun e w2 => ∃ u, e = .returned u ∧ Q3 wr.heap.size ov 0 w' w2 ∧ D3 wr P ua ub ov 1 w2 ∧ G13 n₀ P wr ua ub R u w2) := fun w' hC => (HI.out l[j] (List.getElem_mem hlt) l'[j] _ _ ua ub la' lb' w' ((ht.below hBr).below (hC.2.mono hrov.hn)) ((hu.below hBr).below (hC.2.mono hrov.hn)) (HA.out.gs.prs.atB (fun b hb _ => hC.2.block b hb) (hC.2.mono hrov.hn)) HA.out.len (by have := hC.1; have := hrov.hn; omega) hcount).mono (by
            rintro e w2 ⟨xk, xx, xs', xa, xm, xc, ua2, ub2, la2, lb2, rfl, q1, q2, q3, q4, q5, q6, q7, q8⟩
            have hs' := hC.1
            rw [HA.out.zip, hR] at q3 q4
            rw [hs'] at q4 q6 q7 q8
            exact ⟨_, rfl, hs', ⟨q8, (K3.of_below hC.2).trans q5 (fun _ e => .inl e) (fun _ e => .inl e)⟩, ua2, ub2, la2, lb2, ⟨q1, q2, q3, q6, q7, q8⟩, q4⟩)
          have hcells : ∀ ph w', D3 wr P ua ub ov ph w' → w'.cell? ⟨w.heap.size + 1 + 1 + 1, 3, none⟩ = some ov ∧ w'.cell? ⟨w.heap.size, 3, none⟩ = some (.slice (some ⟨b, off, none⟩) l.length c) ∧ w'.cell? ⟨w.heap.size + 1, 3, none⟩ = some (.slice (some ⟨b', off', none⟩) l'.length c') ∧ w'.cell? ⟨b, off + j * 4, none⟩ = some (.int .i64 tk) ∧ w'.cell? ⟨b, off + j * 4 + 1, none⟩ = some (.int .i64 tn) ∧ w'.cell? ⟨b, off + j * 4 + 2, none⟩ = some (.string ts) ∧ w'.cell? ⟨b, off + j * 4 + 3, none⟩ = some (.slice ta tl.length tc) ∧ w'.cell? ⟨b', off' + j * 4, none⟩ = some (.int .i64 uk) ∧ w'.cell? ⟨b', off' + j * 4 + 1, none⟩ = some (.int .i64 un) ∧ w'.cell? ⟨b', off' + j * 4 + 2, none⟩ = some (.string us) ∧ w'.cell? ⟨b', off' + j * 4 + 3, none⟩ = some (.slice ua0 ul.length uc) := fun ph w' hC => by
            have bx : ∀ {B : Nat} {cs : Array Value}, w.heap.size ≤ B → B < w.heap.size + 4 → Box wr B cs 25 → Box w' B cs 25 := fun {B cs} g1 g2 hb => (hC.block hb.lt (HA.out.far g1 g2).1 (HA.out.far g1 g2).2.1 (HA.out.far g1 g2).2.2.1 (HA.out.far g1 g2).2.2.2).trans hb
            have cl : ∀ {B o : Nat} {v : Value}, B < n₀ → wr.cell? ⟨B, o, none⟩ = some v → w'.cell? ⟨B, o, none⟩ = some v := fun {B o v} g1 hb => (World.cell?_of_block (a := ⟨B, o, none⟩) (hC.block (World.block_lt_of_cell? wr _ hb) (HA.out.old g1).1 (HA.out.old g1).2.1 (HA.out.old g1).2.2.1 (HA.out.old g1).2.2.2)).trans hb
            exact ⟨(bx (by omega) (by omega) HA.out.b3).cell 3, (bx (by omega) (by omega) HA.out.gs.b0).cell 3, (bx (by omega) (by omega) HA.out.gs.b1).cell 3, cl hbb d0, cl hbb d1, cl hbb d2, cl hbb d3, cl hbb' e0, cl hbb' e1, cl hbb' e2, cl hbb' e3⟩
          have HC := Lib.hid hcells
          have HCALL := Lib.hid hcall
          have HR := Lib.hid hR
          have HROV := Lib.hid hrov
          have hT1 : j < 1000000000 := by omega
          have hlo : w.heap.size + 4 ≤ wr.heap.size := by omega
          clear hcells hcall hR te ue ht hu hBr hrov hcount d0 d1 d2 d3 e0 e1 e2 e3
          gi_wp2_with fail
          refine wpIn_region_phases 17 13 15 [.det (.pointer (some ⟨w.heap.size + 1 + 1 + 1, 3, none⟩)), .det ov, .det (.pointer (some ⟨w.heap.size, 3, none⟩)), .det (.slice (some ⟨b, off, none⟩) l.length c), .det (.int .i64 j), .det (.pointer (some ⟨b, off + j * 4, none⟩)), .det (.agg #[.int .i64 tk, .int .i64 tn, .string ts, .slice ta tl.length tc]), .det (.pointer (some ⟨w.heap.size + 1, 3, none⟩)), .det (.slice (some ⟨b', off', none⟩) l'.length c'), .det (.int .i64 j), .det (.pointer (some ⟨b', off' + j * 4, none⟩)), .det (.agg #[.int .i64 uk, .int .i64 un, .string us, .slice ua0 ul.length uc]), .det (.pointer (some ⟨P, 0, none⟩)), .any (G13 n₀ P wr ua ub R), .any (G14 n₀ P wr ua ub R), .any (G15 n₀ P wr ua ub ov (w.heap.size + 4) j xs R), .det (.pointer (some ⟨w.heap.size + 1 + 1 + 1, 3, none⟩))]
            (Q3 wr.heap.size ov) (D3 wr P ua ub ov) hf hd (fun k f args w R h => callsIn_of_calls hF h) (by kernel_rfl) (by kernel_rfl) (by omega) (by omega) (by kernel_rfl) (fun i b h => g_hys HROV.out _ _ _ _ _ _ _ _ _ _ _ _ _ _ i b h) (D3.start _ _ _ _ _) ?_
          simp only [List.take_succ_cons, List.take_zero, List.drop_succ_cons, List.drop_zero]
          clear c3
          iterate 13 (
            refine wpR_step (fun K hK => ?_)
            go_simp
            apply And.intro
            · rw [yieldsR, if_neg (by decide), if_neg (by decide)]
              intro ph w' hC _
              obtain ⟨q1, q2, q3, q4, q5, q6, q7, q8, q9, q10, q11⟩ := HC.out ph w' hC
              have Hq := Lib.hid (And.intro hC (Q3.refl hC))
              clear hC
              go_simp
              exact ⟨Hq.out.2, Hq.out.1⟩
            refine nextM_det (hK _ _ ?_)
            clear hK K)
          refine wpR_step (fun K hK => ?_)
          go_simp
          apply And.intro
          · rw [yieldsR, if_pos rfl]
            intro w' hC _
            have Hq := Lib.hid hC
            clear hC
            go_simp
            exact HCALL.out w' Hq.out
          refine nextM_any (fun tv => hK _ _ ?_)
          clear hK K
          refine wpR_step (fun K hK => ?_)
          go_simp
          apply And.intro
          · rw [yieldsR, if_neg (by decide), if_neg (by decide)]
            intro ph w' hC hd'
            have hu : G13 n₀ P wr ua ub R tv w' := hd' ⟨13, .data⟩ (by simp) rfl tv rfl
            have hu' := hu
            obtain ⟨_, _, _, _, hgs, hP⟩ := hu'
            obtain ⟨rk, rn, rs, ra, rm, rc, e⟩ := hP.form
            subst e
            have hal := D3.al hC hgs.gr (.cells #[.int .i64 rk, .int .i64 rn, .string rs, .slice ra rm rc] 25)
            have hst := G13.stable HROV.out ph _ _ _ hal.1 hu
            have Hq := Lib.hid (And.intro hal (And.intro hst hgs.gr))
            clear hC hd' hu hal hst hgs hP
            go_simp
            exact ⟨Hq.out.1.1, Hq.out.1.2, w'.heap.size, _, _, _, _, rfl, Nat.le_of_lt Hq.out.2.2, Box.at rfl, Hq.out.2.1⟩
          refine nextM_any (fun xv => hK _ _ ?_)
          clear hK K
          refine wpR_step (fun K hK => ?_)
          go_simp
          apply And.intro
          · rw [yieldsR, if_neg (by decide), if_pos rfl]
            intro w' hC hd'
            have hx : G14 n₀ P wr ua ub R xv w' := hd' ⟨14, .data⟩ (by simp) rfl xv rfl
            obtain ⟨v2, w2, hr, h1, h2, h3⟩ := G15.app HROV.out hC HA.out.own hx hT1 hlo
            exact uponP_append _ (.tmp 53) (.tmp 66) 22 rfl rfl rfl hr ⟨h1, h2, h3⟩
          refine nextM_any (fun rv => hK _ _ ?_)
          clear hK K
          refine wpR_step (fun K hK => ?_)
          go_simp
          apply And.intro
          · rw [yieldsR, if_neg (by decide), if_neg (by decide)]
            intro ph w' hC _
            have Hq := Lib.hid (And.intro hC (Q3.refl hC))
            clear hC
            go_simp
            exact ⟨Hq.out.2, Hq.out.1⟩
          refine nextM_det (hK _ _ ?_)
          clear hK K
          refine wpR_nil ?_
          intro w3 hC hE
          have hv : G15 n₀ P wr ua ub ov (w.heap.size + 4) j xs R rv w3 := hE 15 rv rfl
          clear hE
          rw [← HR.out] at hv
          obtain ⟨ys, ua2, ub2, la2, lb2, hN2⟩ := HA.out.next hlt hlt' hC hv
          have hfr := HA.out.far (b := w.heap.size + 1 + 1 + 1) (by omega) (by omega)
          have b3 : Box w3 (w.heap.size + 1 + 1 + 1) #[.int .i64 k, .int .i64 n, .string s, ov] 25 := (hC.2.block _ HA.out.b3.lt hfr.1 hfr.2.1 hfr.2.2.1 hfr.2.2.2).trans HA.out.b3
          have r3 := b3.cell 3
          have r4 := b3.frozen 3
          have r5 := b3.lt
          simp only [List.getElem?_toArray, List.getElem?_cons_succ, List.getElem?_cons_zero] at r3
          obtain ⟨_, _, _, _, _, _, _, _, _, hown, _⟩ := hv
          obtain ⟨rg, rcap, hrv⟩ := ownsRow_succ hown
          have HN2 := Lib.hid hN2
          clear hown hN2 hC b3 hfr
          subst hrv
          gi_wp2_with fail
          go_roundw
          case rel => exact ⟨j + 1, _, _, _, _, _, _, hlt, by go_num, HN2.out⟩
          case measure => simp [intOf]; omega
        · have hjl : j = l.length := by omega
          have hA := HA.out
          have e1 : l.take j = l := List.take_of_length_le (by omega)
          have e2 : l'.take j = l' := List.take_of_length_le (by have := HLL.out; omega)
          have hzip := hA.zip
          have hnum := hA.num
          have hlaid := hA.laid
          have hown := hA.own
          rw [e1, e2] at hzip hnum hlaid
          rw [hjl] at hnum
          rw [hjl, ← hnum] at hown
          have hlaid' : LaidR (NewBut (w.heap.size + 4) ov wr) wr xs (genL l l' ks).1 := hlaid.map fun b hb => ⟨⟨hb.1, hb.2.1, hb.2.2.2.2⟩, rfl⟩
          obtain ⟨oa, oc, hov, ho1, ho2, -⟩ := LaidR.done hlaid' hown
          have hP : IsPL (fun b => w.heap.size + 4 ≤ b ∧ b < wr.heap.size ∧ some b ≠ ua.ownBlock ∧ some b ≠ ub.ownBlock) wr (genL l l' ks).1 oa := by
            have hl2 := hown.lt
            rcases hown.2 with ⟨q1, q0⟩ | ⟨g, cap, cur, q1, -⟩
            · have : (genL l l' ks).1 = [] := List.length_eq_zero_iff.1 q0
              rw [this]
              exact IsPL.nil
            · rw [hov] at q1
              cases q1
              have hg := hl2 g (by rw [hov]; rfl)
              have hga := hA.apart g (by rw [hov]; rfl)
              refine IsPL.of_get ⟨hg.1, hg.2, fun e => hga.1 e.symm, fun e => hga.2 e.symm⟩ fun i hi => ?_
              obtain ⟨v0, v1, v2, v3, c0, c1, c2, c3, ht⟩ := hlaid i hi
              have hc : ∀ j u, xs[j]? = some u → wr.cell? ⟨g, 0 + j, none⟩ = some u := fun j u hu => by
                have := World.ownsRow.cells hown (g := g) (by rw [hov]; rfl) j u hu
                rw [Addr.add_lit] at this
                exact this
              exact ⟨v0, v1, v2, v3, hc _ _ c0, by have := hc _ _ c1; rwa [← Nat.add_assoc] at this, by have := hc _ _ c2; rwa [← Nat.add_assoc] at this, by have := hc _ _ c3; rwa [← Nat.add_assoc] at this, IsP.map (fun b hb => ⟨⟨hb.1, hb.2.1, hb.2.2.1, hb.2.2.2.1⟩, rfl⟩) _ _ ht⟩
          rw [hnum] at hov ho1
          subst hov
          have q0 := hA.b3.cell 0
          have q1 := hA.b3.cell 1
          have q2 := hA.b3.cell 2
          have q3 := hA.b3.cell 3
          have u0 := hA.gs.b2.cell 0
          have u1 := hA.gs.b2.cell 1
          have u2 := hA.gs.b2.cell 2
          have u3 := hA.gs.b2.cell 3
          have g0 := hA.gs.b2.frozen 0
          have g1 := hA.gs.b2.frozen 1
          have g2 := hA.gs.b2.frozen 2
          have g3 := hA.gs.b2.frozen 3
          have l2 := hA.gs.b2.lt
          simp only [List.getElem?_toArray, List.getElem?_cons_succ, List.getElem?_cons_zero] at q0 q1 q2 q3 u0 u1 u2 u3
          have HX := Lib.hid (And.intro ho1 (And.intro ho2 (And.intro hP (And.intro hzip hnum))))
          clear hA hown hlaid hlaid' ho1 ho2 hP hzip hnum e1 e2 hBr
          gi_wp2_with fail
          have z := HA.out.gs.b2.four (.int .i64 k) (.int .i64 n) (.string s) (.slice oa l.length oc)
          have y0 := z.cell 0
          have y1 := z.cell 1
          have y2 := z.cell 2
          have y3 := z.cell 3
          have hne : ∀ b, (b = P ∨ some b = ua.ownBlock ∨ some b = ub.ownBlock) → b ≠ w.heap.size + 1 + 1 := fun b hb e => by
            have hf := HA.out.far (b := w.heap.size + 1 + 1) (by omega) (by omega)
            subst e
            rcases hb with hb | hb | hb
            · exact hf.1 hb
            · exact hf.2.1 hb
            · exact hf.2.2.1 hb
          have hF : GgPost n₀ P (.node k n s l) (.node k n s l') (.slice ga la.length gc) (.slice gb lb.length gcb) la lb w (.returned (.agg #[.int .i64 k, .int .i64 n, .string s, .slice oa l.length oc])) ((((wr.setCell ⟨w.heap.size + 1 + 1, 0, none⟩ (.int .i64 k)).setCell ⟨w.heap.size + 1 + 1, 1, none⟩ (.int .i64 n)).setCell ⟨w.heap.size + 1 + 1, 2, none⟩ (.string s)).setCell ⟨w.heap.size + 1 + 1, 3, none⟩ (.slice oa l.length oc)) := by
            refine ⟨_, _, _, _, _, _, ua, ub, la', lb', rfl, HA.out.gs.prs.atB (fun b _ hb => heap_four (hne b hb) _ _ _ _) (below_four (Below.refl _ _) (by omega) _ _ _ _), HA.out.len, by rw [HKS.out.1, HGEN.out]; exact HX.out.2.2.2.1, ?_, ⟨?_, ?_, ?_, ?_, fun b hb k1 k2 k3 => ?_⟩, fun b e => (HA.out.fa4 b e).imp id (fun h => by omega), fun b e => (HA.out.fb4 b e).imp id (fun h => by omega), by simp; omega⟩
            · rw [HKS.out.1, HGEN.out]
              have hm := IsPL.map (q := NewN w.heap.size ua ub ((((wr.setCell ⟨w.heap.size + 1 + 1, 0, none⟩ (.int .i64 k)).setCell ⟨w.heap.size + 1 + 1, 1, none⟩ (.int .i64 n)).setCell ⟨w.heap.size + 1 + 1, 2, none⟩ (.string s)).setCell ⟨w.heap.size + 1 + 1, 3, none⟩ (.slice oa l.length oc))) (B := ((((wr.setCell ⟨w.heap.size + 1 + 1, 0, none⟩ (.int .i64 k)).setCell ⟨w.heap.size + 1 + 1, 1, none⟩ (.int .i64 n)).setCell ⟨w.heap.size + 1 + 1, 2, none⟩ (.string s)).setCell ⟨w.heap.size + 1 + 1, 3, none⟩ (.slice oa l.length oc))) (fun b hb => ⟨⟨by have := hb.1; omega, by have := hb.2.1; simpa using this, hb.2.2⟩, heap_four (by have := hb.1; omega) _ _ _ _⟩) _ _ HX.out.2.2.1
              have hq := IsP.mk (p := NewN w.heap.size ua ub ((((wr.setCell ⟨w.heap.size + 1 + 1, 0, none⟩ (.int .i64 k)).setCell ⟨w.heap.size + 1 + 1, 1, none⟩ (.int .i64 n)).setCell ⟨w.heap.size + 1 + 1, 2, none⟩ (.string s)).setCell ⟨w.heap.size + 1 + 1, 3, none⟩ (.slice oa l.length oc))) (W := ((((wr.setCell ⟨w.heap.size + 1 + 1, 0, none⟩ (.int .i64 k)).setCell ⟨w.heap.size + 1 + 1, 1, none⟩ (.int .i64 n)).setCell ⟨w.heap.size + 1 + 1, 2, none⟩ (.string s)).setCell ⟨w.heap.size + 1 + 1, 3, none⟩ (.slice oa l.length oc))) HOK.out.1 HOK.out.2.1 HOK.out.2.2 (by rw [HX.out.2.2.2.2]; exact HX.out.1) HX.out.2.1 hm
              rw [HX.out.2.2.2.2] at hq
              exact hq
            · exact HA.out.gs.k3.os
            · exact HA.out.gs.k3.tape
            · exact HA.out.gs.k3.output
            · simpa using HA.out.gs.k3.size
            · rw [heap_four (by omega)]
              exact HA.out.gs.k3.block b hb k1 k2 k3
          have HF := Lib.hid hF
          clear hF z hne q0 q1 q2 q3 u0 u1 u2 u3 g0 g1 g2 g3
          generalize ((((wr.setCell ⟨w.heap.size + 1 + 1, 0, none⟩ (.int .i64 k)).setCell ⟨w.heap.size + 1 + 1, 1, none⟩ (.int .i64 n)).setCell ⟨w.heap.size + 1 + 1, 2, none⟩ (.string s)).setCell ⟨w.heap.size + 1 + 1, 3, none⟩ (.slice oa l.length oc)) = FW at *
          simp at y0 y1 y2 y3
          exact bodyPost_ret (v := .agg #[.int .i64 k, .int .i64 n, .string s, .slice oa l.length oc]) (by simp [results, Tryd.results110, go_sem, y0, y1, y2, y3]) rfl HF.out
end Go.Proofs.YtlaeaoecmnaneaaDoor
