/- ReadOperators: the law's walk. -/
import Derived.Test.YthfciekhmbfmfaaGreatDoorZero
namespace Go.Proofs.YthfciekhmbfmfaaGreatDoor
open Go.RowKit Go Go.Maps

attribute [local go_sem] Oper.semAt_some monoUpon Yld.says
set_option maxRecDepth 100000 in
theorem lawOps_any (w : World) : Calls Tryz.prog 50 #[] w fun e w' => ∃ g, e = .returned (.slice (some ⟨g, 0, none⟩) 19 19) ∧ g < w'.heap.size ∧ Below w.heap.size w w' ∧ ∀ i, i < 19 → w'.cell? ⟨g, i, none⟩ = some (.string (nm (opNm.getD i []))) := by
  go_enter Tryz.func50, Tryz.ntmps50
  go_wp2_with fail
  go_ret
  refine ⟨w.heap.size, rfl, by simp, below_a1 (Nat.le_refl _) _, fun i hi => ?_⟩
  have hb := Box.cell (W := w.alloc (.cells (opNm.map fun l => Value.string (nm l)).toArray 9)) (Box.at (W := w) rfl) i
  refine hb.trans ?_
  have key : ∀ i : Fin 19, (opNm.map fun l => Value.string (nm l)).toArray[i.1]? = some (.string (nm (opNm.getD i.1 []))) := by
    intro i
    match i with
    | ⟨0, _⟩ => rfl
    | ⟨1, _⟩ => rfl
    | ⟨2, _⟩ => rfl
    | ⟨3, _⟩ => rfl
    | ⟨4, _⟩ => rfl
    | ⟨5, _⟩ => rfl
    | ⟨6, _⟩ => rfl
    | ⟨7, _⟩ => rfl
    | ⟨8, _⟩ => rfl
    | ⟨9, _⟩ => rfl
    | ⟨10, _⟩ => rfl
    | ⟨11, _⟩ => rfl
    | ⟨12, _⟩ => rfl
    | ⟨13, _⟩ => rfl
    | ⟨14, _⟩ => rfl
    | ⟨15, _⟩ => rfl
    | ⟨16, _⟩ => rfl
    | ⟨17, _⟩ => rfl
    | ⟨18, _⟩ => rfl
    | ⟨n + 19, h⟩ => exact absurd h (by omega)
  exact key ⟨i, hi⟩
theorem rem19 (i : Int) : ∃ j : Nat, j < 19 ∧ Int.tmod (IntKind.wrap .u64 i) 19 = (j : Int) := by
  have h0 : 0 ≤ IntKind.wrap .u64 i := by simp [IntKind.wrap, IntKind.bits, IntKind.signed]; omega
  refine ⟨(Int.tmod (IntKind.wrap .u64 i) 19).toNat, ?_, ?_⟩
  · rw [Int.tmod_eq_emod_of_nonneg h0]; omega
  · rw [Int.tmod_eq_emod_of_nonneg h0]; omega
theorem opNm_len (i : Nat) (hi : i < 19) : (opNm.getD i []).length ≤ 3 := by
  have key : ∀ i : Fin 19, (opNm.getD i.1 []).length ≤ 3 := by decide
  exact key ⟨i, hi⟩
theorem app_nm (x y : List UInt8) : (nm x ++ nm y : ByteArray) = nm (x ++ y) := by
  apply bytes_eq
  simp [nm]
theorem nm_size (x : List UInt8) : (nm x).size = x.length := by show x.toArray.size = _; simp
theorem op_fine (i k : Nat) (hi : i < 19) (hk : k < 19) : (opLf (opNm.getD i []) (opNm.getD k [])).fine = true ∧ (opRt (opNm.getD i []) (opNm.getD k [])).fine = true := by
  have key : ∀ i k : Fin 19, ((opLf (opNm.getD i.1 []) (opNm.getD k.1 [])).fine && (opRt (opNm.getD i.1 []) (opNm.getD k.1 [])).fine) = true := by decide +kernel
  have := key ⟨i, hi⟩ ⟨k, hk⟩
  simpa only [Bool.and_eq_true] using this
/-- Which of the three ways the law takes for two operators. -/
theorem op_ways (i k : Nat) (hi : i < 19) (hk : k < 19) : ∃ (la lb : List UInt8) (pa pb pc qa qb qc : Int), opNm.getD i [] = la ∧ opNm.getD k [] = lb ∧ la.length ≤ 3 ∧ lb.length ≤ 3 ∧ infV (nm la) = (pa, pb, pc) ∧ infB (nm la) = true ∧ infV (nm lb) = (qa, qb, qc) ∧ infB (nm lb) = true ∧
    ((pa < qa ∧ ∃ ns, parR (nm (opTx la lb)) = .ok (opLf la lb, ns)) ∨ (¬ pa < qa ∧ pa = qa ∧ qb = qa ∧ ∃ ns, parR (nm (opTx la lb)) = .ok (opLf la lb, ns)) ∨
     (¬ pa < qa ∧ pa ≠ qa ∧ pa > qa ∧ ∃ ns, parR (nm (opTx la lb)) = .ok (opRt la lb, ns)) ∨ (¬ pa < qa ∧ pa = qa ∧ qb ≠ qa ∧ pc = pa ∧ ∃ ns, parR (nm (opTx la lb)) = .ok (opRt la lb, ns)) ∨
     (¬ pa < qa ∧ pa = qa ∧ qb ≠ qa ∧ pc ≠ pa ∧ parR (nm (opTx la lb)) = .error ((la.length : Int) + 5, 21))) := by
  have h := op_all ⟨i, hi⟩ ⟨k, hk⟩
  have h1 := opNm_len i hi
  have h2 := opNm_len k hk
  simp only at h
  generalize opNm.getD i [] = la at *
  generalize opNm.getD k [] = lb at *
  obtain ⟨⟨pa, pb, pc⟩, hp⟩ : ∃ o, infV (nm la) = o := ⟨_, rfl⟩
  obtain ⟨⟨qa, qb, qc⟩, hq⟩ : ∃ o, infV (nm lb) = o := ⟨_, rfl⟩
  unfold opTry at h
  rw [hp, hq] at h
  simp only [Bool.and_eq_true] at h
  obtain ⟨⟨hb1, hb2⟩, h⟩ := h
  refine ⟨la, lb, pa, pb, pc, qa, qb, qc, rfl, rfl, h1, h2, hp, hb1, hq, hb2, ?_⟩
  by_cases c1 : pa < qa
  · rw [if_pos (.inl c1)] at h
    exact .inl ⟨c1, rdB_ok h⟩
  · by_cases c2 : pa = qa
    · by_cases c3 : qb = qa
      · rw [if_pos (.inr ⟨c2, c3⟩)] at h
        exact .inr (.inl ⟨c1, c2, c3, rdB_ok h⟩)
      · rw [if_neg (by rintro (e | ⟨_, e⟩); exact c1 e; exact c3 e)] at h
        by_cases c4 : pc = pa
        · rw [if_pos (.inr c4)] at h
          exact .inr (.inr (.inr (.inl ⟨c1, c2, c3, c4, rdB_ok h⟩)))
        · rw [if_neg (by rintro (e | e); omega; exact c4 e)] at h
          exact .inr (.inr (.inr (.inr ⟨c1, c2, c3, c4, erB_ok h⟩)))
    · rw [if_neg (by rintro (e | ⟨e, _⟩); exact c1 e; exact c2 e)] at h
      have c4 : pa > qa := by omega
      rw [if_pos (.inl c4)] at h
      exact .inr (.inr (.inl ⟨c1, c2, c4, rdB_ok h⟩))
set_option maxRecDepth 100000 in
set_option maxHeartbeats 64000000 in
theorem readOperators_any (i k : Int) (w : World) (mm : Int) (hCw : WrC w mm) : Calls Tryz.prog 16 #[.int .i64 i, .int .i64 k] w fun e w' => e = .returned (.bool true) ∧ Below w.heap.size w w' := by
  have HC := Lib.hid (fun (W' : World) (hB : Below w.heap.size w W') => hCw.up hB)
  have HSA := Lib.hid (sane2_any w mm hCw)
  obtain ⟨ia, hia, hra⟩ := rem19 i
  obtain ⟨kb, hkb, hrb⟩ := rem19 k
  obtain ⟨la, lb, pa, pb, pc, qa, qb, qc, ela, elb, hla, hlb, hp, hpb, hq, hqb, hways⟩ := op_ways ia kb hia hkb
  have hwa : IntKind.wrap .u64 (ia : Int) = (ia : Int) := by simp [IntKind.wrap, IntKind.bits, IntKind.signed]; omega
  have hwb : IntKind.wrap .u64 (kb : Int) = (kb : Int) := by simp [IntKind.wrap, IntKind.bits, IntKind.signed]; omega
  have hw19 : IntKind.wrap .u64 19 = 19 := by decide
  have HW := Lib.hid hways
  have HOP := Lib.hid (And.intro hp (And.intro hpb (And.intro hq hqb)))
  have hfine := op_fine ia kb hia hkb
  rw [ela, elb] at hfine
  have HFI := Lib.hid hfine
  clear hfine
  have HEL := Lib.hid (And.intro ela elb)
  clear hCw hways hp hpb hq hqb ela elb
  refine (callsIn_wide (n := 9)).1 ?_
  generalize hF : Fence.wide = F
  have hd : F.depth = none := by subst hF; rfl
  have hf : ∀ f, F.fn f := fun f => by subst hF; trivial
  have hro : F.round = none := by subst hF; rfl
  refine callsIn_of_wp Tryz.func16 rfl (hf _) ?_ hro
  simp only [Tryz.ntmps16, List.size_toArray, List.length_cons, List.length_nil, Nat.reduceAdd, Nat.reduceSub, Array.replicate_succ, Array.replicate_zero, List.push_toArray, List.append_toArray, List.nil_append, List.cons_append]
  gi_wp2_with fail
  refine CallsIn.mono (callsIn_of_calls hF (HSA.out)) ?_
  rintro e W1 ⟨rfl, B1⟩
  have HB1 := Lib.hid B1
  clear B1
  gi_wp2_with fail
  refine CallsIn.mono (callsIn_of_calls hF (lawOps_any W1)) ?_
  rintro e W2 ⟨g, rfl, hg, B2, hcell⟩
  have HB2 := Lib.hid (HB1.out.trans (B2.mono HB1.out.size))
  have ca := hcell ia hia
  have cb := hcell kb hkb
  rw [HEL.out.1] at ca
  rw [HEL.out.2] at cb
  clear B2 hcell
  gi_wp2_with fail
  refine CallsIn.mono (callsIn_of_calls hF (readInfix_any (nm la) (by rw [nm_size]; unfold maxLen; omega) W2)) ?_
  rintro e W3 ⟨rfl, B3⟩
  rw [HOP.out.1, HOP.out.2.1]
  simp only [opV]
  have hA := below_a1 (Nat.le_refl W3.heap.size) (.cells #[.int .i64 pa, .int .i64 pb, .int .i64 pc] 48)
  have hb8 : Box (W3.alloc (.cells #[.int .i64 pa, .int .i64 pb, .int .i64 pc] 48)) W3.heap.size #[.int .i64 pa, .int .i64 pb, .int .i64 pc] 48 := Box.at rfl
  have H4 := Lib.hid (And.intro (HB2.out.trans ((B3.trans (hA.mono B3.size)).mono HB2.out.size)) hb8)
  clear B3 hA hb8 ca cb
  gi_wp2_with fail
  generalize W3.alloc (.cells #[.int .i64 pa, .int .i64 pb, .int .i64 pc] 48) = W4 at *
  obtain ⟨g8, hg8⟩ : ∃ g8, W3.heap.size = g8 := ⟨_, rfl⟩
  rw [hg8] at H4 ⊢
  clear hg8
  refine CallsIn.mono (callsIn_of_calls hF (readInfix_any (nm lb) (by rw [nm_size]; unfold maxLen; omega) W4)) ?_
  rintro e W5 ⟨rfl, B5⟩
  rw [HOP.out.2.2.1, HOP.out.2.2.2]
  simp only [opV]
  have hA := below_a1 (Nat.le_refl W5.heap.size) (.cells #[.int .i64 qa, .int .i64 qb, .int .i64 qc] 48)
  have hb10 : Box (W5.alloc (.cells #[.int .i64 qa, .int .i64 qb, .int .i64 qc] 48)) W5.heap.size #[.int .i64 qa, .int .i64 qb, .int .i64 qc] 48 := Box.at rfl
  have hE5 := B5.trans (hA.mono B5.size)
  have H6 := Lib.hid (And.intro (H4.out.1.trans (hE5.mono H4.out.1.size)) (And.intro (H4.out.2.keep hE5) hb10))
  clear B5 hA hb10 hE5
  gi_wp2_with fail
  generalize W5.alloc (.cells #[.int .i64 qa, .int .i64 qb, .int .i64 qc] 48) = W6 at *
  obtain ⟨g10, hg10⟩ : ∃ g10, W5.heap.size = g10 := ⟨_, rfl⟩
  rw [hg10] at H6 ⊢
  clear hg10
  refine CallsIn.mono (callsIn_of_calls hF (law2Atom_any ⟨#[120]⟩ (by decide) W6)) ?_
  rintro e W59 ⟨u59, rfl, B59, h59⟩
  obtain ⟨k59, n59, t59, x59, m59, c59, rfl⟩ := tr_form h59
  gi_wp2_with fail
  refine CallsIn.mono (callsIn_of_calls hF (law2Atom_any ⟨#[121]⟩ (by decide) W59)) ?_
  rintro e W60 ⟨u60, rfl, B60, h60⟩
  obtain ⟨k60, n60, t60, x60, m60, c60, rfl⟩ := tr_form h60
  gi_wp2_with fail
  refine CallsIn.mono (callsIn_of_calls hF (law2Atom_any ⟨#[122]⟩ (by decide) W60)) ?_
  rintro e W61 ⟨u61, rfl, B61, h61⟩
  obtain ⟨k61, n61, t61, x61, m61, c61, rfl⟩ := tr_form h61
  have hA1 : Below W61.heap.size W61 (((W61.alloc (.cells #[.int .i64 k59, .int .i64 n59, .string t59, .slice x59 m59 c59] 31)).alloc (.cells #[.int .i64 k60, .int .i64 n60, .string t60, .slice x60 m60 c60] 31)).alloc (.cells #[.int .i64 k61, .int .i64 n61, .string t61, .slice x61 m61 c61] 31)) := below_a3 (Nat.le_refl W61.heap.size) (.cells #[.int .i64 k59, .int .i64 n59, .string t59, .slice x59 m59 c59] 31) (.cells #[.int .i64 k60, .int .i64 n60, .string t60, .slice x60 m60 c60] 31) (.cells #[.int .i64 k61, .int .i64 n61, .string t61, .slice x61 m61 c61] 31)
  have hE : Ext W6 (((W61.alloc (.cells #[.int .i64 k59, .int .i64 n59, .string t59, .slice x59 m59 c59] 31)).alloc (.cells #[.int .i64 k60, .int .i64 n60, .string t60, .slice x60 m60 c60] 31)).alloc (.cells #[.int .i64 k61, .int .i64 n61, .string t61, .slice x61 m61 c61] 31)) := (B59.trans ((B60.trans (B61.mono B60.size)).mono B59.size)).trans (hA1.mono (Nat.le_trans B59.size (Nat.le_trans B60.size B61.size)))
  have tb59 : TrBox (tAt [120]) (W61.heap.size) (((W61.alloc (.cells #[.int .i64 k59, .int .i64 n59, .string t59, .slice x59 m59 c59] 31)).alloc (.cells #[.int .i64 k60, .int .i64 n60, .string t60, .slice x60 m60 c60] 31)).alloc (.cells #[.int .i64 k61, .int .i64 n61, .string t61, .slice x61 m61 c61] 31)) := ⟨_, _, _, _, _, _, ((Box.at rfl).alloc _).alloc _, IsT.up (IsT.up (IsT.up h59 B60 B60.size) B61 B61.size) hA1 hA1.size⟩
  have tb60 : TrBox (tAt [121]) (W61.heap.size + 1) (((W61.alloc (.cells #[.int .i64 k59, .int .i64 n59, .string t59, .slice x59 m59 c59] 31)).alloc (.cells #[.int .i64 k60, .int .i64 n60, .string t60, .slice x60 m60 c60] 31)).alloc (.cells #[.int .i64 k61, .int .i64 n61, .string t61, .slice x61 m61 c61] 31)) := ⟨_, _, _, _, _, _, (Box.at (by simp)).alloc _, IsT.up (IsT.up h60 B61 B61.size) hA1 hA1.size⟩
  have tb61 : TrBox (tAt [122]) (W61.heap.size + 1 + 1) (((W61.alloc (.cells #[.int .i64 k59, .int .i64 n59, .string t59, .slice x59 m59 c59] 31)).alloc (.cells #[.int .i64 k60, .int .i64 n60, .string t60, .slice x60 m60 c60] 31)).alloc (.cells #[.int .i64 k61, .int .i64 n61, .string t61, .slice x61 m61 c61] 31)) := ⟨_, _, _, _, _, _, Box.at (by simp), IsT.up h61 hA1 hA1.size⟩
  have H9 := Lib.hid (And.intro tb59 (And.intro tb60 (And.intro tb61 (And.intro (H6.out.1.trans (Below.mono hE H6.out.1.size)) (And.intro (H6.out.2.1.keep hE) (H6.out.2.2.keep hE))))))
  clear hA1 hE tb59 tb60 tb61 h59 h60 h61 B59 B60 B61
  gi_wp2_with fail
  generalize ((W61.alloc (.cells #[.int .i64 k59, .int .i64 n59, .string t59, .slice x59 m59 c59] 31)).alloc (.cells #[.int .i64 k60, .int .i64 n60, .string t60, .slice x60 m60 c60] 31)).alloc (.cells #[.int .i64 k61, .int .i64 n61, .string t61, .slice x61 m61 c61] 31) = W9 at *
  obtain ⟨bx, hbx⟩ : ∃ bx, W61.heap.size = bx := ⟨_, rfl⟩
  obtain ⟨by', hby⟩ : ∃ by', bx + 1 = by' := ⟨_, rfl⟩
  obtain ⟨bz, hbz⟩ : ∃ bz, by' + 1 = bz := ⟨_, rfl⟩
  rw [hbx, hby, hbz] at H9 ⊢
  clear hbx hby hbz
  have HBW := Lib.hid H9.out.2.2.2.1
  have hsa : (nm la).size ≤ maxLen := by rw [nm_size]; unfold maxLen; omega
  have hsb : (nm lb).size ≤ maxLen := by rw [nm_size]; unfold maxLen; omega
  refine wpIn_region_mono_tail 10 [.det (.string (nm lb)), .det (.string (nm la)), .any (IsTr (tAt [120])), .any (IsTr (tAt [121])), .any (IsSl [(tAt [120]), (tAt [121])]), .any (IsTr (tFn la [(tAt [120]), (tAt [121])])), .any (IsTr (tAt [122])), .any (IsSl [(tFn la [(tAt [120]), (tAt [121])]), (tAt [122])]), .any (IsTr (tFn lb [(tFn la [(tAt [120]), (tAt [121])]), (tAt [122])])), .any (IsZer W9.heap.size)] hf hd (fun k f args w R h => callsIn_of_calls hF h) (by kernel_rfl) (by kernel_rfl) ?_ ?_
  · intro y hy
    simp only [List.mem_cons, List.not_mem_nil, or_false] at hy
    rcases hy with rfl | rfl | rfl | rfl | rfl | rfl | rfl | rfl | rfl | rfl <;> first | trivial | exact IsSl.stable _ | exact IsTr.stable _ | exact IsZer.stable _
  simp only [List.take_succ_cons, List.take_zero, List.drop_succ_cons, List.drop_zero]
  rw [wpM]
  go_simp
  apply And.intro
  · intro w' hC hd
    have q1 := hC.old.1
    have hbs := hC.old.2.2
    clear hC hd
    go_simp
    first | exact ⟨Ext.refl _, rfl⟩ | exact Ext.refl _
  simp only [nextM]
  rw [wpM]
  go_simp
  apply And.intro
  · intro w' hC hd
    have q1 := hC.old.1
    have hbs := hC.old.2.2
    clear hC hd
    go_simp
    first | exact ⟨Ext.refl _, rfl⟩ | exact Ext.refl _
  simp only [nextM]
  rw [wpM]
  go_simp
  apply And.intro
  · intro w' hC hd
    obtain ⟨k, n, t, x, m, c, hb, ht⟩ := TrBox.up (H9.out.1) hC
    have l0 := hb.lt
    have q0 := hb.cell 0
    have q1 := hb.cell 1
    have q2 := hb.cell 2
    have q3 := hb.cell 3
    simp only [List.getElem?_toArray, List.getElem?_cons_succ, List.getElem?_cons_zero] at q0 q1 q2 q3
    clear hC hd
    go_simp
    first | exact ⟨Ext.refl _, ht⟩ | exact Ext.refl _
  simp only [nextM]
  intro y2
  rw [wpM]
  go_simp
  apply And.intro
  · intro w' hC hd
    obtain ⟨k, n, t, x, m, c, hb, ht⟩ := TrBox.up (H9.out.2.1) hC
    have l0 := hb.lt
    have q0 := hb.cell 0
    have q1 := hb.cell 1
    have q2 := hb.cell 2
    have q3 := hb.cell 3
    simp only [List.getElem?_toArray, List.getElem?_cons_succ, List.getElem?_cons_zero] at q0 q1 q2 q3
    clear hC hd
    go_simp
    first | exact ⟨Ext.refl _, ht⟩ | exact Ext.refl _
  simp only [nextM]
  intro y3
  rw [wpM]
  go_simp
  apply And.intro
  · intro w' hC hd
    have k2 : IsTr (tAt [120]) y2 w' := hd ⟨2, .data⟩ (by simp) rfl y2 rfl
    have k3 : IsTr (tAt [121]) y3 w' := hd ⟨3, .data⟩ (by simp) rfl y3 rfl
    obtain ⟨p2, p2a, p2b, p2c, p2d, p2e, rfl⟩ := tr_form k2
    obtain ⟨p3, p3a, p3b, p3c, p3d, p3e, rfl⟩ := tr_form k3
    clear hC hd
    go_simp
    exact ⟨below_a1 (Nat.le_refl _) _, isSl2 k2 k3⟩
  simp only [nextM]
  intro y4
  rw [wpM]
  go_simp
  apply And.intro
  · intro w' hC hd
    have k4 : IsSl [(tAt [120]), (tAt [121])] y4 w' := hd ⟨4, .data⟩ (by simp) rfl y4 rfl
    clear hC hd
    go_simp
    refine ⟨Ext.refl _, (law2Fun_any (nm la) hsa [(tAt [120]), (tAt [121])] y4 _ k4).mono ?_⟩
    rintro e w2 ⟨u, rfl, hB, h⟩
    exact ⟨_, rfl, hB, h⟩
  simp only [nextM]
  intro y5
  rw [wpM]
  go_simp
  apply And.intro
  · intro w' hC hd
    obtain ⟨k, n, t, x, m, c, hb, ht⟩ := TrBox.up (H9.out.2.2.1) hC
    have l0 := hb.lt
    have q0 := hb.cell 0
    have q1 := hb.cell 1
    have q2 := hb.cell 2
    have q3 := hb.cell 3
    simp only [List.getElem?_toArray, List.getElem?_cons_succ, List.getElem?_cons_zero] at q0 q1 q2 q3
    clear hC hd
    go_simp
    first | exact ⟨Ext.refl _, ht⟩ | exact Ext.refl _
  simp only [nextM]
  intro y6
  rw [wpM]
  go_simp
  apply And.intro
  · intro w' hC hd
    have k5 : IsTr (tFn la [(tAt [120]), (tAt [121])]) y5 w' := hd ⟨5, .data⟩ (by simp) rfl y5 rfl
    have k6 : IsTr (tAt [122]) y6 w' := hd ⟨6, .data⟩ (by simp) rfl y6 rfl
    obtain ⟨p5, p5a, p5b, p5c, p5d, p5e, rfl⟩ := tr_form k5
    obtain ⟨p6, p6a, p6b, p6c, p6d, p6e, rfl⟩ := tr_form k6
    clear hC hd
    go_simp
    exact ⟨below_a1 (Nat.le_refl _) _, isSl2 k5 k6⟩
  simp only [nextM]
  intro y7
  rw [wpM]
  go_simp
  apply And.intro
  · intro w' hC hd
    have k7 : IsSl [(tFn la [(tAt [120]), (tAt [121])]), (tAt [122])] y7 w' := hd ⟨7, .data⟩ (by simp) rfl y7 rfl
    clear hC hd
    go_simp
    refine ⟨Ext.refl _, (law2Fun_any (nm lb) hsb [(tFn la [(tAt [120]), (tAt [121])]), (tAt [122])] y7 _ k7).mono ?_⟩
    rintro e w2 ⟨u, rfl, hB, h⟩
    exact ⟨_, rfl, hB, h⟩
  simp only [nextM]
  intro y8
  rw [wpM]
  go_simp
  apply And.intro
  · intro w' hC hd
    have hl := Below.size hC
    clear hC hd
    go_simp
    exact ⟨below_a1 (Nat.le_refl _) _, (IsZer.made w').lower hl⟩
  simp only [nextM]
  intro y9
  refine wpM_nil ?_
  intro W10 hC1 hE
  have hy : IsTr (opLf la lb) y8 W10 := hE 8 y8 rfl
  have hz : IsZer W9.heap.size y9 W10 := hE 9 y9 rfl
  clear hE
  obtain ⟨bl, rfl, hlo, hzb⟩ := hz
  obtain ⟨klbl, nlbl, tlbl, xlbl, mlbl, clbl, rfl⟩ := tr_form hy
  obtain ⟨tbx, hE⟩ := TrBox.stored hzb HFI.out.1 hC1 hlo hy
  have p0 := Box.cell hzb 0
  have p1 := Box.cell hzb 1
  have p2 := Box.cell hzb 2
  have p3 := Box.cell hzb 3
  have z0 := Box.frozen hzb 0
  have z1 := Box.frozen hzb 1
  have z2 := Box.frozen hzb 2
  have z3 := Box.frozen hzb 3
  have lz := Box.lt hzb
  simp only [List.getElem?_toArray, List.getElem?_cons_succ, List.getElem?_cons_zero] at p0 p1 p2 p3
  have H11 := Lib.hid (And.intro (H9.out.1.up hE) (And.intro (H9.out.2.1.up hE) (And.intro (H9.out.2.2.1.up hE) (And.intro (H9.out.2.2.2.1.trans (Below.mono hE H9.out.2.2.2.1.size)) (And.intro (H9.out.2.2.2.2.1.keep hE) (And.intro (H9.out.2.2.2.2.2.keep hE) tbx))))))
  clear hC1 hy hE tbx HBW hzb
  gi_wp2_with fail
  generalize ((((W10.setCell ⟨bl, 0, none⟩ (.int .i64 klbl)).setCell ⟨bl, 1, none⟩ (.int .i64 nlbl)).setCell ⟨bl, 2, none⟩ (.string tlbl)).setCell ⟨bl, 3, none⟩ (.slice xlbl mlbl clbl)) = W11 at *
  clear p0 p1 p2 p3 z0 z1 z2 z3 lz hlo
  have HBW := Lib.hid H11.out.2.2.2.1
  refine wpIn_region_mono_tail 10 [.det (.string (nm la)), .any (IsTr (tAt [120])), .det (.string (nm lb)), .any (IsTr (tAt [121])), .any (IsTr (tAt [122])), .any (IsSl [(tAt [121]), (tAt [122])]), .any (IsTr (tFn lb [(tAt [121]), (tAt [122])])), .any (IsSl [(tAt [120]), (tFn lb [(tAt [121]), (tAt [122])])]), .any (IsTr (tFn la [(tAt [120]), (tFn lb [(tAt [121]), (tAt [122])])])), .any (IsZer W11.heap.size)] hf hd (fun k f args w R h => callsIn_of_calls hF h) (by kernel_rfl) (by kernel_rfl) ?_ ?_
  · intro y hy
    simp only [List.mem_cons, List.not_mem_nil, or_false] at hy
    rcases hy with rfl | rfl | rfl | rfl | rfl | rfl | rfl | rfl | rfl | rfl <;> first | trivial | exact IsSl.stable _ | exact IsTr.stable _ | exact IsZer.stable _
  simp only [List.take_succ_cons, List.take_zero, List.drop_succ_cons, List.drop_zero]
  rw [wpM]
  go_simp
  apply And.intro
  · intro w' hC hd
    have q1 := hC.old.1
    have hbs := hC.old.2.2
    clear hC hd
    go_simp
    first | exact ⟨Ext.refl _, rfl⟩ | exact Ext.refl _
  simp only [nextM]
  rw [wpM]
  go_simp
  apply And.intro
  · intro w' hC hd
    obtain ⟨k, n, t, x, m, c, hb, ht⟩ := TrBox.up (H11.out.1) hC
    have l0 := hb.lt
    have q0 := hb.cell 0
    have q1 := hb.cell 1
    have q2 := hb.cell 2
    have q3 := hb.cell 3
    simp only [List.getElem?_toArray, List.getElem?_cons_succ, List.getElem?_cons_zero] at q0 q1 q2 q3
    clear hC hd
    go_simp
    first | exact ⟨Ext.refl _, ht⟩ | exact Ext.refl _
  simp only [nextM]
  intro y1
  rw [wpM]
  go_simp
  apply And.intro
  · intro w' hC hd
    have q1 := hC.old.1
    have hbs := hC.old.2.2
    clear hC hd
    go_simp
    first | exact ⟨Ext.refl _, rfl⟩ | exact Ext.refl _
  simp only [nextM]
  rw [wpM]
  go_simp
  apply And.intro
  · intro w' hC hd
    obtain ⟨k, n, t, x, m, c, hb, ht⟩ := TrBox.up (H11.out.2.1) hC
    have l0 := hb.lt
    have q0 := hb.cell 0
    have q1 := hb.cell 1
    have q2 := hb.cell 2
    have q3 := hb.cell 3
    simp only [List.getElem?_toArray, List.getElem?_cons_succ, List.getElem?_cons_zero] at q0 q1 q2 q3
    clear hC hd
    go_simp
    first | exact ⟨Ext.refl _, ht⟩ | exact Ext.refl _
  simp only [nextM]
  intro y3
  rw [wpM]
  go_simp
  apply And.intro
  · intro w' hC hd
    obtain ⟨k, n, t, x, m, c, hb, ht⟩ := TrBox.up (H11.out.2.2.1) hC
    have l0 := hb.lt
    have q0 := hb.cell 0
    have q1 := hb.cell 1
    have q2 := hb.cell 2
    have q3 := hb.cell 3
    simp only [List.getElem?_toArray, List.getElem?_cons_succ, List.getElem?_cons_zero] at q0 q1 q2 q3
    clear hC hd
    go_simp
    first | exact ⟨Ext.refl _, ht⟩ | exact Ext.refl _
  simp only [nextM]
  intro y4
  rw [wpM]
  go_simp
  apply And.intro
  · intro w' hC hd
    have k3 : IsTr (tAt [121]) y3 w' := hd ⟨3, .data⟩ (by simp) rfl y3 rfl
    have k4 : IsTr (tAt [122]) y4 w' := hd ⟨4, .data⟩ (by simp) rfl y4 rfl
    obtain ⟨p3, p3a, p3b, p3c, p3d, p3e, rfl⟩ := tr_form k3
    obtain ⟨p4, p4a, p4b, p4c, p4d, p4e, rfl⟩ := tr_form k4
    clear hC hd
    go_simp
    exact ⟨below_a1 (Nat.le_refl _) _, isSl2 k3 k4⟩
  simp only [nextM]
  intro y5
  rw [wpM]
  go_simp
  apply And.intro
  · intro w' hC hd
    have k5 : IsSl [(tAt [121]), (tAt [122])] y5 w' := hd ⟨5, .data⟩ (by simp) rfl y5 rfl
    clear hC hd
    go_simp
    refine ⟨Ext.refl _, (law2Fun_any (nm lb) hsb [(tAt [121]), (tAt [122])] y5 _ k5).mono ?_⟩
    rintro e w2 ⟨u, rfl, hB, h⟩
    exact ⟨_, rfl, hB, h⟩
  simp only [nextM]
  intro y6
  rw [wpM]
  go_simp
  apply And.intro
  · intro w' hC hd
    have k1 : IsTr (tAt [120]) y1 w' := hd ⟨1, .data⟩ (by simp) rfl y1 rfl
    have k6 : IsTr (tFn lb [(tAt [121]), (tAt [122])]) y6 w' := hd ⟨6, .data⟩ (by simp) rfl y6 rfl
    obtain ⟨p1, p1a, p1b, p1c, p1d, p1e, rfl⟩ := tr_form k1
    obtain ⟨p6, p6a, p6b, p6c, p6d, p6e, rfl⟩ := tr_form k6
    clear hC hd
    go_simp
    exact ⟨below_a1 (Nat.le_refl _) _, isSl2 k1 k6⟩
  simp only [nextM]
  intro y7
  rw [wpM]
  go_simp
  apply And.intro
  · intro w' hC hd
    have k7 : IsSl [(tAt [120]), (tFn lb [(tAt [121]), (tAt [122])])] y7 w' := hd ⟨7, .data⟩ (by simp) rfl y7 rfl
    clear hC hd
    go_simp
    refine ⟨Ext.refl _, (law2Fun_any (nm la) hsa [(tAt [120]), (tFn lb [(tAt [121]), (tAt [122])])] y7 _ k7).mono ?_⟩
    rintro e w2 ⟨u, rfl, hB, h⟩
    exact ⟨_, rfl, hB, h⟩
  simp only [nextM]
  intro y8
  rw [wpM]
  go_simp
  apply And.intro
  · intro w' hC hd
    have hl := Below.size hC
    clear hC hd
    go_simp
    exact ⟨below_a1 (Nat.le_refl _) _, (IsZer.made w').lower hl⟩
  simp only [nextM]
  intro y9
  refine wpM_nil ?_
  intro W12 hC1 hE
  have hy : IsTr (opRt la lb) y8 W12 := hE 8 y8 rfl
  have hz : IsZer W11.heap.size y9 W12 := hE 9 y9 rfl
  clear hE
  obtain ⟨br, rfl, hlo, hzb⟩ := hz
  obtain ⟨klbr, nlbr, tlbr, xlbr, mlbr, clbr, rfl⟩ := tr_form hy
  obtain ⟨tbx, hE⟩ := TrBox.stored hzb HFI.out.2 hC1 hlo hy
  have p0 := Box.cell hzb 0
  have p1 := Box.cell hzb 1
  have p2 := Box.cell hzb 2
  have p3 := Box.cell hzb 3
  have z0 := Box.frozen hzb 0
  have z1 := Box.frozen hzb 1
  have z2 := Box.frozen hzb 2
  have z3 := Box.frozen hzb 3
  have lz := Box.lt hzb
  simp only [List.getElem?_toArray, List.getElem?_cons_succ, List.getElem?_cons_zero] at p0 p1 p2 p3
  have H13 := Lib.hid (And.intro (H11.out.2.2.2.1.trans (Below.mono hE H11.out.2.2.2.1.size)) (And.intro (H11.out.2.2.2.2.1.keep hE) (And.intro (H11.out.2.2.2.2.2.1.keep hE) (And.intro (H11.out.2.2.2.2.2.2.up hE) tbx))))
  clear hC1 hy hE tbx HBW H11 H9 hzb
  have ad1 : ∀ t, binOp .add t (.string ⟨#[120, 32]⟩) (.string (nm la)) = pure (.string (nm ([120, 32] ++ la))) := fun t => by rw [add_str t ⟨#[120, 32]⟩ (nm la) (by rw [nm_size]; show (2 : Nat) + _ ≤ _; omega)]; exact congrArg (fun x => pure (Value.string x)) (app_nm [120, 32] la)
  have ad2 : ∀ t, binOp .add t (.string (nm ([120, 32] ++ la))) (.string ⟨#[32, 121, 32]⟩) = pure (.string (nm ([120, 32] ++ la ++ [32, 121, 32]))) := fun t => by rw [add_str t _ _ (by rw [nm_size]; simp only [List.length_append, List.length_cons, List.length_nil]; show _ + (3 : Nat) ≤ _; omega)]; exact congrArg (fun x => pure (Value.string x)) (app_nm _ [32, 121, 32])
  have ad3 : ∀ t, binOp .add t (.string (nm ([120, 32] ++ la ++ [32, 121, 32]))) (.string (nm lb)) = pure (.string (nm ([120, 32] ++ la ++ [32, 121, 32] ++ lb))) := fun t => by rw [add_str t _ _ (by rw [nm_size, nm_size]; simp only [List.length_append, List.length_cons, List.length_nil]; omega)]; exact congrArg (fun x => pure (Value.string x)) (app_nm _ lb)
  have ad4 : ∀ t, binOp .add t (.string (nm ([120, 32] ++ la ++ [32, 121, 32] ++ lb))) (.string ⟨#[32, 122]⟩) = pure (.string (nm (opTx la lb))) := fun t => by rw [add_str t _ _ (by rw [nm_size]; simp only [List.length_append, List.length_cons, List.length_nil]; show _ + (2 : Nat) ≤ _; omega)]; exact congrArg (fun x => pure (Value.string x)) (app_nm _ [32, 122])
  have hsz5 : ((nm ([120, 32] ++ la ++ [32, 121, 32])).size : Int) = (la.length : Int) + 5 := by rw [nm_size]; simp only [List.length_append, List.length_cons, List.length_nil]; omega
  have HS5 := Lib.hid hsz5
  clear hsz5
  obtain ⟨s1, hs1⟩ : ∃ s1, nm ([120, 32] ++ la) = s1 := ⟨_, rfl⟩
  obtain ⟨s2, hs2⟩ : ∃ s2, nm ([120, 32] ++ la ++ [32, 121, 32]) = s2 := ⟨_, rfl⟩
  obtain ⟨s3, hs3⟩ : ∃ s3, nm ([120, 32] ++ la ++ [32, 121, 32] ++ lb) = s3 := ⟨_, rfl⟩
  obtain ⟨s4, hs4⟩ : ∃ s4, nm (opTx la lb) = s4 := ⟨_, rfl⟩
  rw [hs1] at ad1 ad2
  rw [hs2] at ad2 ad3 HS5
  rw [hs3] at ad3 ad4
  rw [hs4] at ad4 HW
  have hs4z : s4.size ≤ 1000000 := by rw [← hs4, nm_size]; simp only [opTx, List.length_append, List.length_cons, List.length_nil]; omega
  clear hs1 hs2 hs3 hs4
  gi_upto_region 13 with (fail)
  generalize ((((W12.setCell ⟨br, 0, none⟩ (.int .i64 klbr)).setCell ⟨br, 1, none⟩ (.int .i64 nlbr)).setCell ⟨br, 2, none⟩ (.string tlbr)).setCell ⟨br, 3, none⟩ (.slice xlbr mlbr clbr)) = W13 at *
  clear p0 p1 p2 p3 z0 z1 z2 z3 lz hlo
  have r0 := H13.out.2.1.cell 0
  have r1 := H13.out.2.1.cell 1
  have r2 := H13.out.2.1.cell 2
  have s0 := H13.out.2.2.1.cell 0
  have t1' := H13.out.2.2.1.cell 1
  have t2' := H13.out.2.2.1.cell 2
  have lr := H13.out.2.1.lt
  have ls := H13.out.2.2.1.lt
  simp only [List.getElem?_toArray, List.getElem?_cons_succ, List.getElem?_cons_zero] at r0 r1 r2 s0 t1' t2'
  obtain ⟨kL, nL, tL, xL, mL, cL, hbL, htL⟩ := H13.out.2.2.2.1
  obtain ⟨kR, nR, tR, xR, mR, cR, hbR, htR⟩ := H13.out.2.2.2.2
  have vL0 := hbL.cell 0
  have vL1 := hbL.cell 1
  have vL2 := hbL.cell 2
  have vL3 := hbL.cell 3
  have lvL := hbL.lt
  have vR0 := hbR.cell 0
  have vR1 := hbR.cell 1
  have vR2 := hbR.cell 2
  have vR3 := hbR.cell 3
  have lvR := hbR.lt
  simp only [List.getElem?_toArray, List.getElem?_cons_succ, List.getElem?_cons_zero] at vL0 vL1 vL2 vL3 vR0 vR1 vR2 vR3
  have HTL := Lib.hid htL
  have HTR := Lib.hid htR
  clear htL htR hbL hbR
  have HB13 := Lib.hid H13.out.1
  skip
  rcases HW.out with ⟨c1, ns, hr⟩ | ⟨c1, c2, c3, ns, hr⟩ | ⟨c1, c2, c3, ns, hr⟩ | ⟨c1, c2, c3, c4, ns, hr⟩ | ⟨c1, c2, c3, c4, hr⟩
  · clear HW
    gi_wp2_with fail
    refine CallsIn.mono (callsIn_of_calls hF (reads_true s4 (opLf la lb) ns hr hs4z _ W13 mm (HC.out W13 HB13.out) HTL.out)) ?_
    rintro e W14 ⟨rfl, B14⟩
    have HB14 := Lib.hid (HB13.out.trans (B14.mono HB13.out.size))
    clear B14 hr
    gi_wp2_with fail
    go_ret
    exact ⟨rfl, HB14.out⟩
  · have e1 : (pa == qa) = true := by simpa using c2
    have e2 : (qb == qa) = true := by simpa using c3
    clear HW c2 c3
    gi_wp2_with fail
    refine CallsIn.mono (callsIn_of_calls hF (reads_true s4 (opLf la lb) ns hr hs4z _ W13 mm (HC.out W13 HB13.out) HTL.out)) ?_
    rintro e W14 ⟨rfl, B14⟩
    have HB14 := Lib.hid (HB13.out.trans (B14.mono HB13.out.size))
    clear B14 hr
    gi_wp2_with fail
    go_ret
    exact ⟨rfl, HB14.out⟩
  · have e1 : (pa == qa) = false := by simpa using c2
    clear HW c2
    gi_wp2_with fail
    refine CallsIn.mono (callsIn_of_calls hF (reads_true s4 (opRt la lb) ns hr hs4z _ W13 mm (HC.out W13 HB13.out) HTR.out)) ?_
    rintro e W14 ⟨rfl, B14⟩
    have HB14 := Lib.hid (HB13.out.trans (B14.mono HB13.out.size))
    clear B14 hr
    gi_wp2_with fail
    go_ret
    exact ⟨rfl, HB14.out⟩
  · have e1 : (pa == qa) = true := by simpa using c2
    have e2 : (qb == qa) = false := by simpa using c3
    have e3 : ¬ pa > qa := by omega
    have e4 : (pc == pa) = true := by simpa using c4
    clear HW c2 c3 c4
    gi_wp2_with fail
    refine CallsIn.mono (callsIn_of_calls hF (reads_true s4 (opRt la lb) ns hr hs4z _ W13 mm (HC.out W13 HB13.out) HTR.out)) ?_
    rintro e W14 ⟨rfl, B14⟩
    have HB14 := Lib.hid (HB13.out.trans (B14.mono HB13.out.size))
    clear B14 hr
    gi_wp2_with fail
    go_ret
    exact ⟨rfl, HB14.out⟩
  · have e1 : (pa == qa) = true := by simpa using c2
    have e2 : (qb == qa) = false := by simpa using c3
    have e3 : ¬ pa > qa := by omega
    have e4 : (pc == pa) = false := by simpa using c4
    have e5 : ((la.length : Int) + 5 == (s2.size : Int)) = true := by rw [HS5.out]; simp
    have HTM := Lib.hid (readTerm_any s4 W13 hs4z mm (HC.out W13 HB13.out).mx (HC.out W13 HB13.out).ml)
    clear HW c2 c3 c4
    gi_wp2_with fail
    refine CallsIn.mono (callsIn_of_calls hF (HTM.out)) ?_
    rintro e W14 ⟨B14, hQ⟩
    rw [hr] at hQ
    obtain rfl : e = .returned (.tuple #[.agg #[.int .i64 0, .int .i64 0, .string ⟨#[]⟩, .slice none 0 0], .slice none 0 0, .int .i64 ((la.length : Int) + 5), .int .i64 21]) := hQ
    have hA14 := below_a1 (Nat.le_refl W14.heap.size) (.cells #[.int .i64 0, .int .i64 0, .string ⟨#[]⟩, .slice none 0 0] 31)
    have HB14 := Lib.hid (HB13.out.trans ((B14.trans (hA14.mono B14.size)).mono HB13.out.size))
    clear B14 hA14 hr
    gi_wp2_with fail
    go_ret
    exact ⟨rfl, HB14.out⟩
end Go.Proofs.YthfciekhmbfmfaaGreatDoor
