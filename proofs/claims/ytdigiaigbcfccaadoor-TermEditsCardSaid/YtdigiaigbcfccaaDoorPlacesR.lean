/- The places of a tree: the second reading. -/
import Derived.Test.YtdigiaigbcfccaaDoorAppP
namespace Go.Proofs.YtdigiaigbcfccaaDoor
open Go.RowKit Go

attribute [local go_sem] monoUpon Yld.says Oper.semAt_some

mutual
theorem plcT_length : ∀ (T : Tr) (p : List Int), (plcT p T).length = T.size
  | .node k n s l, p => by rw [plcT, List.length_cons, plcL_length l p 0, Tr.size]; omega
theorem plcL_length : ∀ (l : List Tr) (p : List Int) (i : Nat), (plcL p i l).length = sizeL l
  | [], _, _ => by simp [plcL, sizeL]
  | t :: ts, p, i => by rw [plcL, List.length_append, plcT_length t, plcL_length ts, sizeL]
end
theorem plcL_snoc (p : List Int) : ∀ (l : List Tr) (i : Nat) (t : Tr), plcL p i (l ++ [t]) = plcL p i l ++ plcT (p ++ [((i + l.length : Nat) : Int)]) t
  | [], i, t => by simp [plcL]
  | x :: l, i, t => by
    rw [List.cons_append, plcL, plcL_snoc p l (i + 1) t, plcL, List.append_assoc, List.length_cons, show i + 1 + l.length = i + (l.length + 1) by omega]
def pfs (xs : List (List Int × Tr)) : List (List Int) := xs.map Prod.fst
def IsNumsS (lo : Nat) (ls : List (List Int)) (u : Value) (W : World) : Prop := NumsS lo W u ls
theorem NumsS.keep {lo : Nat} {W V : World} {v : Value} {ls : List (List Int)} (h : NumsS lo W v ls) (B : Below W.heap.size W V) : NumsS lo V v ls := by
  obtain ⟨us, h1, h2⟩ := h
  exact ⟨us, h1.kept (grown_b none B) (by rcases v.ownBlock with _ | _ <;> simp), NumsL.at (fun b hb _ _ => B.block b hb) h2⟩
theorem IsNumsS.steady (lo : Nat) (ls : List (List Int)) : (Yld.any (IsNumsS lo ls)).stable := fun _ _ _ he h => NumsS.keep h he
theorem NumsS.base {lo lo' : Nat} (hl : lo' ≤ lo) {W : World} {v : Value} {ls : List (List Int)} (h : NumsS lo W v ls) : NumsS lo' W v ls := by
  obtain ⟨us, h1, h2⟩ := h
  exact ⟨us, ⟨h1.1, h1.2.imp id fun ⟨g, cap, cur, e, hb, r⟩ => ⟨g, cap, cur, e, Nat.le_trans hl hb, r⟩⟩, NumsL.base hl h2⟩
theorem NumsL.one {p : Nat → Prop} {lo : Nat} {W : World} : ∀ {us : List Value} {xs : List (List Int)}, NumsL p lo W us xs → ∀ u ∈ us, u.oneCell' = true
  | [], [], _, u, hu => by cases hu
  | x :: us, _ :: _, h, u, hu => by
    rcases List.mem_cons.1 hu with rfl | hu
    · rcases Nums.open h.1.1 with ⟨rfl, _⟩ | ⟨g, cap, cur, rfl, _⟩ <;> rfl
    · exact NumsL.one h.2 u hu
/-- What places hands back. -/
def PlPost (ls : List (List Int)) (w : World) (e : Ending) (w' : World) : Prop := ∃ o, e = .returned o ∧ NumsS w.heap.size w' o ls ∧ Below w.heap.size w w'
structure PlAt (p : List Int) (k n : Int) (s : ByteArray) (l : List Tr) (a : Option Addr) (c : Nat) (w : World) (q : Nat) (ov : Value) (wr : World) : Prop where
  row : NumsS (w.heap.size + 1) wr ov (p :: pfs (plcL p 0 (l.take q)))
  box : Box wr w.heap.size #[.int .i64 k, .int .i64 n, .string s, .slice a l.length c] 25
  below : Below w.heap.size w wr

set_option maxRecDepth 100000 in
set_option maxHeartbeats 4000000 in
theorem refPlaces_any (T : Tr) : ∀ (p : List Int) (v u : Value) (w : World), IsT w.heap.size w T v → RdN w.heap.size w p u → p.length + T.size ≤ 1000000 →
    Calls Tryd.prog 85 #[v, u] w (PlPost (pfs (plcT p T)) w) := by
  induction T using Tr.ind with
  | h k n s l ih =>
  intro p v u w hT hp hsz
  obtain ⟨a1, c1, rfl, _, _, _, hlc, hcm, hL⟩ := hT.open
  have hls := length_le_sizeL l
  have hsz' : p.length + (1 + sizeL l) ≤ 1000000 := by simpa [Tr.size] using hsz
  have hlm : l.length ≤ 9223372036854775807 := by omega
  have hB0 := below_a1 (Nat.le_refl w.heap.size) (.cells #[.int .i64 k, .int .i64 n, .string s, .slice a1 l.length c1] 25)
  have hp1 := hp.up hB0 hB0.size
  have hpl : p.length ≤ 1000000 := by omega
  have HW := Lib.hid (And.intro hL (And.intro hp (And.intro ih hB0)))
  clear hL hp ih hB0 hT
  refine (callsIn_wide (n := 9)).1 ?_
  generalize hF : Fence.wide = F
  have hd : F.depth = none := by subst hF; rfl
  have hf : ∀ f, F.fn f := fun f => by subst hF; trivial
  have hro : F.round = none := by subst hF; rfl
  refine callsIn_of_wp Tryd.func85 rfl (hf _) ?_ hro
  simp only [Tryd.ntmps85, List.size_toArray, List.length_cons, List.length_nil, Nat.reduceAdd, Nat.reduceSub, Array.replicate_succ, Array.replicate_zero, List.push_toArray, List.append_toArray, List.nil_append, List.cons_append]
  gi_wp2_with (gi_at_builtin; refine wpListIn_append_path _ rfl _ _ rfl rfl p _ rfl hp1 hpl ?_)
  intro v1 w1 hown hB1
  obtain ⟨va, vm, vc, rfl⟩ : ∃ va vm vc, v1 = .slice va vm vc := by
    rcases hown.2 with ⟨e, _⟩ | ⟨g, cap, cur, e, _⟩
    · exact ⟨_, _, _, e⟩
    · exact ⟨_, _, _, e⟩
  have hs1 := hB1.size
  have HB1 := Lib.hid (And.intro hown (HW.out.2.2.2.trans (hB1.mono (by omega))))
  have hbx : Box w1 w.heap.size #[.int .i64 k, .int .i64 n, .string s, .slice a1 l.length c1] 25 := (hB1.block _ (by simp)).trans (Box.at rfl)
  have hI0 : PlAt p k n s l a1 c1 w 0 (.slice (some ⟨w1.heap.size, 0, none⟩) 1 1) (w1.alloc (.cells #[.slice va vm vc] 35)) := by
    refine ⟨⟨[.slice va vm vc], ⟨rfl, .inr ⟨w1.heap.size, 1, #[.slice va vm vc], rfl, by simpa using hs1, World.alloc_heap_new _ _, Nat.le_refl _, by decide, rfl, rfl⟩⟩, ⟨⟨?_, fun _ _ h => h⟩, trivial⟩⟩, hbx.alloc _, HB1.out.2.alloc HB1.out.2.size _⟩
    have h1 : Nums (w.heap.size + 1) w1 (.slice va vm vc) p := by simpa [Nums] using hown
    exact h1.keep (below_a1 (Nat.le_refl _) _)
  have HI0 := Lib.hid hI0
  clear hI0 hown hB1 hbx hp1
  obtain ⟨i0, hi, hz0, hz1, hz2⟩ := info_parts infoInts
  gi_wp2_with fail
  gi_loopw [6, 7] (fun ov iv wr => ∃ q : Nat, q ≤ l.length ∧ iv = .int .i64 q ∧ PlAt p k n s l a1 c1 w q ov wr) (fun _ iv _ => l.length - (intOf iv).toNat)
  case atStart => exact ⟨0, Nat.zero_le _, by go_num, HI0.out⟩
  case round =>
    obtain ⟨q, hq, rfl, hA⟩ := hrel
    have HA := Lib.hid hA
    have q3 := hA.box.cell 3
    have hl0 := hA.box.lt
    simp only [List.getElem?_toArray, List.getElem?_cons_succ, List.getElem?_cons_zero] at q3
    clear hA
    by_cases hlt : q < l.length
    · obtain ⟨us, hown, hN⟩ := HA.out.row
      obtain ⟨G, cap, rfl⟩ : ∃ G cap, u6 = .slice (some ⟨G, 0, none⟩) (p :: pfs (plcL p 0 (l.take q))).length cap := by
        rcases hown.2 with ⟨_, h0⟩ | ⟨g, cap, cur, e, _⟩
        · simp at h0
        · exact ⟨g, cap, e⟩
      have HU := Lib.hid (And.intro hown hN)
      clear hown hN
      have hBr := HA.out.below
      obtain ⟨b2, off2, rfl, hb2⟩ := HW.out.1.addr (by omega)
      obtain ⟨tk, tn, tss, tl, ta, tc, te, d0, d1, d2, d3, ht⟩ := HW.out.1.node' hb2 hBr q hlt
      have hwr := hBr.size
      have lb2 : b2 < wr.heap.size := by omega
      have HT := Lib.hid ht
      have HBr := Lib.hid hBr
      clear te ht hBr
      gi_wp2_with fail
      refine wpIn_region_mono_tail 10 [.det (.slice (some ⟨G, 0, none⟩) (p :: pfs (plcL p 0 (l.take q))).length cap), .det (.pointer (some ⟨w.heap.size, 3, none⟩)), .det (.slice (some ⟨b2, off2, none⟩) l.length c1), .det (.int .i64 q), .det (.pointer (some ⟨b2, off2 + q * 4, none⟩)), .det (.agg #[.int .i64 tk, .int .i64 tn, .string tss, .slice ta tl.length tc]), .det u, .det (.int .i64 q), .any (IsNums wr.heap.size (p ++ [(q : Int)])), .any (IsNumsS wr.heap.size (pfs (plcT (p ++ [(q : Int)]) l[q])))] hf hd (fun k f args w R h => callsIn_of_calls hF h) (by kernel_rfl) (by kernel_rfl) ?_ ?_
      · intro y hy
        simp only [List.mem_cons, List.not_mem_nil, or_false] at hy
        rcases hy with rfl | rfl | rfl | rfl | rfl | rfl | rfl | rfl | rfl | rfl <;> first | trivial | exact IsNums.stable _ _ | exact IsNumsS.steady _ _
      simp only [List.take_succ_cons, List.take_zero, List.drop_succ_cons, List.drop_zero]
      iterate 8 (
        refine wpM_step (fun K hK => ?_)
        go_simp
        apply And.intro
        · intro w' hC _
          have q1 := hC.old.1
          have hbs := hC.old.2.2
          clear hC
          go_simp
          exact Ext.refl _
        refine nextM_det (hK _ _ ?_)
        clear hK K)
      refine wpM_step (fun K hK => ?_)
      go_simp
      apply And.intro
      · intro w' hC _
        have hs' := Below.size hC
        have hBw := HBr.out.trans (Below.mono hC HBr.out.size)
        have hj := joined_any p (q : Int) u w' (HW.out.2.1.up hBw hBw.size) hpl
        have HJ := Lib.hid hj
        clear hj hC hBw
        go_simp
        refine ⟨Ext.refl _, HJ.out.mono ?_⟩
        rintro e w2' ⟨x, rfl, hx, hb'⟩
        exact ⟨x, rfl, hb', hx.base hs'⟩
      refine nextM_any (fun y => hK _ _ ?_)
      clear hK K
      refine wpM_step (fun K hK => ?_)
      go_simp
      apply And.intro
      · intro w' hC hd'
        have hy : IsNums wr.heap.size (p ++ [(q : Int)]) y w' := hd' ⟨8, .data⟩ (by simp) rfl y rfl
        have hs' := Below.size hC
        have hBw := HBr.out.trans (Below.mono hC HBr.out.size)
        have hz := HW.out.2.2.1 l[q] (List.getElem_mem hlt) (p ++ [(q : Int)]) (.agg #[.int .i64 tk, .int .i64 tn, .string tss, .slice ta tl.length tc]) y w' (HT.out.up hBw hBw.size) (Nums.rd hy) (by have := size_mem (List.getElem_mem hlt); simp; omega)
        have HZ := Lib.hid hz
        clear hz hy hC hBw hd'
        go_simp
        refine ⟨Ext.refl _, HZ.out.mono ?_⟩
        rintro e w2' ⟨x, rfl, hx, hb'⟩
        exact ⟨x, rfl, hb', hx.base hs'⟩
      refine nextM_any (fun z => hK _ _ ?_)
      clear hK K
      refine wpM_nil ?_
      intro w9 hC hE
      have hz : IsNumsS wr.heap.size (pfs (plcT (p ++ [(q : Int)]) l[q])) z w9 := hE 9 z rfl
      clear hE
      obtain ⟨us2, hown2, hN2⟩ := hz
      have hm2 : (pfs (plcT (p ++ [(q : Int)]) l[q])).length = l[q].size := by rw [pfs, List.length_map, plcT_length]
      have hm1 : (p :: pfs (plcL p 0 (l.take q))).length ≤ 1 + sizeL l := by
        rw [List.length_cons, pfs, List.length_map, plcL_length]
        have := sizeL_take_le (l := l) q
        omega
      have hsq := size_mem (List.getElem_mem hlt)
      have hs1q : 1 ≤ l[q].size := by
        cases l[q] with
        | node => simp only [Tr.size]; omega
      obtain ⟨g2, cap2, rfl⟩ : ∃ g2 cap2, z = .slice (some ⟨g2, 0, none⟩) (pfs (plcT (p ++ [(q : Int)]) l[q])).length cap2 := by
        rcases hown2.2 with ⟨_, h0⟩ | ⟨g, cap, cur, e, _⟩
        · omega
        · exact ⟨g, cap, e⟩
      have hown9 := HU.out.1.kept (grown_b none hC) (.inr (by simp [Value.ownBlock]))
      have hN9 := NumsL.at (fun b hb _ _ => Below.block hC b hb) HU.out.2
      have hbx9 := HA.out.box.keep hC
      have hB9 := HBr.out.trans (Below.mono hC HBr.out.size)
      have hs9 := Below.size hC
      have hle : (p :: pfs (plcL p 0 (l.take q))) ++ pfs (plcT (p ++ [(q : Int)]) l[q]) = p :: pfs (plcL p 0 (l.take (q + 1))) := by
        rw [← List.take_append_getElem hlt, plcL_snoc, List.length_take, Nat.min_eq_left (by omega), Nat.zero_add]
        simp [pfs]
      have hc2 : ∀ j x, us2[j]? = some x → w9.cell? ((⟨g2, 0, none⟩ : Addr).add j) = some x := fun j x hx => World.ownsRow.cells hown2 (g := g2) rfl j x hx
      have h63 : (p :: pfs (plcL p 0 (l.take q))).length + (pfs (plcT (p ++ [(q : Int)]) l[q])).length ≤ maxLen := by unfold maxLen; omega
      have hby : ((p :: pfs (plcL p 0 (l.take q))).length + (pfs (plcT (p ++ [(q : Int)]) l[q])).length) * 24 ≤ 140737488355328 := by omega
      have hbase : w.heap.size + 1 ≤ w9.heap.size := by have := hbx9.lt; omega
      have hone2 := NumsL.one hN2
      have hln2 := hown2.1
      clear d0 d1 d2 d3 q3
      gi_wp2_with (gi_at_builtin; refine wpListIn_append_where _ rfl _ _ 37 rfl (w.heap.size + 1) 35 i0 (.slice none 0 0) 1 24 Tryd.underlying37 hi hz0 hz1 hz2 rfl (by decide) _ _ us rfl hown9 ⟨g2, 0, none⟩ _ cap2 us2 rfl hln2 hc2 hone2 h63 hby hbase ?_)
      intro v' w' hown' hgrow hwh
      have hsz' : w9.heap.size ≤ w'.heap.size := hgrow.size
      have hk : ∀ b, b < w9.heap.size → ∀ cur : Array Value, Box w9 b cur 3 → w'.heap[b]? = w9.heap[b]? := fun b hb cur hbox => hgrow.block b hb (row_not_box hown9 hbox (by decide))
      have hI : PlAt p k n s l (some ⟨b2, off2, none⟩) c1 w (q + 1) v' w' := by
        refine ⟨⟨us ++ us2, ?_, ?_⟩, (hgrow.block _ hbx9.lt (row_not_box hown9 hbx9 (by decide))).trans hbx9, hB9.trans (grown_below' hgrow hB9.size (fun g hg => by have := (hown9.lt g hg).1; omega))⟩
        · rw [← hle, List.length_append, hm2, List.length_cons]; exact hown'
        · rw [← hle]; exact NumsL.app (NumsL.at hk hN9) (NumsL.base (by have := HA.out.box.lt; omega) (NumsL.at hk hN2))
      have HI := Lib.hid hI
      clear hI hown' hgrow hwh hk hown9 hN9 hown2 hN2 hbx9 hB9 hc2 hone2 hC hle
      gi_wp2_with fail
      exact ⟨⟨q + 1, by omega, by go_num, HI.out⟩, by simp [intOf]; omega⟩
    · obtain rfl : q = l.length := by omega
      have hfin : NumsS w.heap.size wr u6 (pfs (plcT p (.node k n s l))) := by
        have h := HA.out.row
        rw [List.take_length] at h
        rw [pfs, plcT]
        exact h.base (by omega)
      have HF := Lib.hid hfin
      clear hfin
      gi_wp2_with fail
      go_ret
      exact ⟨u6, rfl, HF.out, HA.out.below⟩
end Go.Proofs.YtdigiaigbcfccaaDoor
