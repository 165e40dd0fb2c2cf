/- The lexer's step that cuts a name of symbol characters, or the point at the end of a term. -/
import Derived.Test.YthfciekhmbfmfaaGreatDoorCutq
import Derived.Test.YthfciekhmbfmfaaGreatDoorPass
import Derived.Test.YthfciekhmbfmfaaGreatDoorCutg
namespace Go.Proofs.YthfciekhmbfmfaaGreatDoor
open Go.RowKit Go

/-- L: the symbol characters; r: what is behind them. -/
def symX (L r : List UInt8) : Option (Tok × Nat) :=
  if L.length ≤ 32 then
    if L = [46] ∧ endB r = true then some (⟨.fin, [46], 0⟩, 1) else some (⟨.name, L, 0⟩, L.length)
  else none
set_option maxRecDepth 100000 in
set_option maxHeartbeats 4000000 in
theorem cutSymbols_any (w : World) (B : Nat) (s : ByteArray) (a : Nat) (xs : List Lx) (pv : Value) (W : World) (h : LxSt w B s a xs pv W) (hx : xs.length ≤ 100000) (ha : a ≤ s.size) (hs : s.size ≤ 1000000) :
    Calls Tryz.prog 142 #[.pointer (some ⟨B, 0, none⟩)] W (CutQ w B s a xs pv (symX (runL syB (s.data.toList.drop a)) (s.data.toList.drop (a + (runL syB (s.data.toList.drop a)).length))) W) := by
  have hnm := fun pv w hB => namedSymbol_any B s a pv w hB ha hs
  have hLl : (runL syB (s.data.toList.drop a)).length ≤ s.size - a := by
    have h1 := (List.takeWhile_sublist (l := s.data.toList.drop a) syB).length_le
    have h2 : (s.data.toList.drop a).length = s.size - a := by simp
    simp only [runL]
    omega
  generalize runL syB (s.data.toList.drop a) = L at *
  have hadd := fun W pv t n h => add_any w B s a n xs t pv W h hx
  have HS := Lib.hid (And.intro h (And.intro hnm hadd))
  have h0 := h.up (below_a1 (Nat.le_refl W.heap.size) (.cells #[.nilFunc] 133))
  have H0 := Lib.hid h0
  clear h h0 hnm hadd
  go_enter Tryz.func142, Tryz.ntmps142
  go_wp2_with fail
  refine (HS.out.2.1 pv _ H0.out.box).mono ?_
  rintro e W1 ⟨he, hB1⟩
  have h1 := H0.out.up hB1
  have c0 := h1.box.cell 0
  have c1 := h1.box.cell 1
  have l0 := h1.box.lt
  simp only [List.getElem?_toArray, List.getElem?_cons_succ, List.getElem?_cons_zero] at c0 c1
  have HB1 : Hid (Below (alS W).heap.size (alS W) W1) := hB1
  have H1 := Lib.hid h1
  clear hB1 h1
  by_cases h32 : L.length ≤ 32
  · rw [if_pos h32] at he
    subst he
    by_cases h46 : L = [46]
    · subst h46
      have hl1 : [(46 : UInt8)].length = 1 := rfl
      by_cases hend : a + 1 = s.size
      · have HQ : Hid (symX [46] (s.data.toList.drop (a + [(46 : UInt8)].length)) = some (⟨.fin, [46], 0⟩, 1)) := by
          unfold symX
          rw [Hid, List.drop_of_length_le (by simp; omega)]
          rfl
        have HA := HS.out.2.2 W1 pv ⟨.fin, [46], 0⟩ (a + 1)
        rw [show ((a + 1 : Nat) : Int) = (s.size : Int) by omega] at HA
        have HA := Lib.hid HA
        have he1 : ((a : Int) + 1) = (s.size : Int) := by omega
        clear h32
        go_wp2_with fail
        refine (HA.out H1.out).mono ?_
        rintro e W2 ⟨rfl, pv', hL2, hT2⟩
        have hfin := cut_fin HS.out.1 HB1.out hL2 hT2 (.func (.func 98) #[] #[])
        have k7 := hfin.1.cell 0
        have k8 := hfin.1.frozen 0
        simp only [List.getElem?_toArray, List.getElem?_cons_zero] at k7
        have hst : (store ⟨W.heap.size, 0, none⟩ (.func (.func 98) #[] #[])).run Tryz.prog W2 = .ok () (W2.setCell ⟨W.heap.size, 0, none⟩ (.func (.func 98) #[] #[])) := by
          rw [run_store _ _ _ _ _ rfl, k7, k8]
          rfl
        have HF := Lib.hid hfin.2
        clear hfin hL2 hT2
        go_wp2_with fail
        generalize W2.setCell ⟨W.heap.size, 0, none⟩ (.func (.func 98) #[] #[]) = W5 at *
        have k9 := HF.out.2.2
        refine bodyPost_ret (v := stepB) (by simp [results, Tryz.results142, k9, go_sem, stepB]) rfl ?_
        rw [HQ.out]
        exact ⟨rfl, _, HF.out.1, HF.out.2.1⟩
      · have hlt : a + 1 < s.size := by simp only [List.length_cons, List.length_nil] at hLl; omega
        have hdc := drop_cons s (a + 1) hlt
        have hXe : ((a : Int) + 1) = ((a + 1 : Nat) : Int) := by omega
        have hne : ¬ (((a + 1 : Nat) : Int) = (s.size : Int)) := by omega
        obtain ⟨k, hk⟩ : ∃ k, a + 1 = k := ⟨_, rfl⟩
        have hcs : s.data.toList.drop (a + [(46 : UInt8)].length) = s.data.toList.drop k := by rw [hl1, hk]
        simp only [hk] at hlt hdc hXe hne
        obtain ⟨d, hd⟩ : ∃ d, s[k] = d := ⟨_, rfl⟩
        rw [hd] at hdc
        have HA := HS.out.2.2 W1 pv
        have HC := Lib.hid (fun w => isBlank_any (d.toNat : Int) w)
        cases hb : blankB d.toNat with
        | true =>
          have HQ : Hid (symX [46] (s.data.toList.drop (a + [(46 : UInt8)].length)) = some (⟨.fin, [46], 0⟩, 1)) := by
            unfold symX
            rw [Hid, hcs, hdc, endB, blB, hb]
            rfl
          have HA := HA ⟨.fin, [46], 0⟩ (a + 1)
          rw [hk] at HA
          have HA := Lib.hid HA
          have HK := Lib.hid hk
          clear h32 hdc hend hk hcs
          go_wp2_with fail
          refine (HC.out _).mono ?_
          rintro e w2 ⟨rfl, rfl⟩
          rw [hb]
          go_wp2_with fail
          refine (HA.out H1.out).mono ?_
          rintro e W2 ⟨rfl, pv', hL2, hT2⟩
          rw [← HK.out] at hL2
          have hfin := cut_fin HS.out.1 HB1.out hL2 hT2 (.func (.func 98) #[] #[])
          have k7 := hfin.1.cell 0
          have k8 := hfin.1.frozen 0
          simp only [List.getElem?_toArray, List.getElem?_cons_zero] at k7
          have hst : (store ⟨W.heap.size, 0, none⟩ (.func (.func 98) #[] #[])).run Tryz.prog W2 = .ok () (W2.setCell ⟨W.heap.size, 0, none⟩ (.func (.func 98) #[] #[])) := by
            rw [run_store _ _ _ _ _ rfl, k7, k8]
            rfl
          have HF := Lib.hid hfin.2
          clear hfin hL2 hT2
          go_wp2_with fail
          generalize W2.setCell ⟨W.heap.size, 0, none⟩ (.func (.func 98) #[] #[]) = W5 at *
          have k9 := HF.out.2.2
          refine bodyPost_ret (v := stepB) (by simp [results, Tryz.results142, k9, go_sem, stepB]) rfl ?_
          rw [HQ.out]
          exact ⟨rfl, _, HF.out.1, HF.out.2.1⟩
        | false =>
          by_cases h37 : d = 37
          · subst h37
            have HQ : Hid (symX [46] (s.data.toList.drop (a + [(46 : UInt8)].length)) = some (⟨.fin, [46], 0⟩, 1)) := by
              unfold symX
              rw [Hid, hcs, hdc, endB, blB, hb]
              rfl
            have HA := HA ⟨.fin, [46], 0⟩ (a + 1)
            rw [hk] at HA
            have HA := Lib.hid HA
            have HK := Lib.hid hk
            clear h32 hdc hend hk hcs
            go_wp2_with fail
            refine (HC.out _).mono ?_
            rintro e w2 ⟨rfl, rfl⟩
            rw [hb]
            go_wp2_with fail
            refine (HA.out H1.out).mono ?_
            rintro e W2 ⟨rfl, pv', hL2, hT2⟩
            rw [← HK.out] at hL2
            have hfin := cut_fin HS.out.1 HB1.out hL2 hT2 (.func (.func 98) #[] #[])
            have k7 := hfin.1.cell 0
            have k8 := hfin.1.frozen 0
            simp only [List.getElem?_toArray, List.getElem?_cons_zero] at k7
            have hst : (store ⟨W.heap.size, 0, none⟩ (.func (.func 98) #[] #[])).run Tryz.prog W2 = .ok () (W2.setCell ⟨W.heap.size, 0, none⟩ (.func (.func 98) #[] #[])) := by
              rw [run_store _ _ _ _ _ rfl, k7, k8]
              rfl
            have HF := Lib.hid hfin.2
            clear hfin hL2 hT2
            go_wp2_with fail
            generalize W2.setCell ⟨W.heap.size, 0, none⟩ (.func (.func 98) #[] #[]) = W5 at *
            have k9 := HF.out.2.2
            refine bodyPost_ret (v := stepB) (by simp [results, Tryz.results142, k9, go_sem, stepB]) rfl ?_
            rw [HQ.out]
            exact ⟨rfl, _, HF.out.1, HF.out.2.1⟩
          · have HQ : Hid (symX [46] (s.data.toList.drop (a + [(46 : UInt8)].length)) = some (⟨.name, [46], 0⟩, 1)) := by
              unfold symX
              rw [Hid, hcs, hdc, endB, blB, hb, if_pos (by decide), if_neg (by simp [h37])]
              rfl
            have e37 : ((d.toNat : Int) == 37) = false := ne_i (n := 37) (by omega) h37
            have HA := HA ⟨.name, [46], 0⟩ (a + 1)
            rw [hk] at HA
            have HA := Lib.hid HA
            have HK := Lib.hid hk
            clear h32 hdc hend hk hcs h37
            go_wp2_with fail
            refine (HC.out _).mono ?_
            rintro e w2 ⟨rfl, rfl⟩
            rw [hb]
            go_wp2_with fail
            refine (HA.out H1.out).mono ?_
            rintro e W2 ⟨rfl, pv', hL2, hT2⟩
            rw [← HK.out] at hL2
            have hfin := cut_fin HS.out.1 HB1.out hL2 hT2 (.func (.func 98) #[] #[])
            have k7 := hfin.1.cell 0
            have k8 := hfin.1.frozen 0
            simp only [List.getElem?_toArray, List.getElem?_cons_zero] at k7
            have hst : (store ⟨W.heap.size, 0, none⟩ (.func (.func 98) #[] #[])).run Tryz.prog W2 = .ok () (W2.setCell ⟨W.heap.size, 0, none⟩ (.func (.func 98) #[] #[])) := by
              rw [run_store _ _ _ _ _ rfl, k7, k8]
              rfl
            have HF := Lib.hid hfin.2
            clear hfin hL2 hT2
            go_wp2_with fail
            generalize W2.setCell ⟨W.heap.size, 0, none⟩ (.func (.func 98) #[] #[]) = W5 at *
            have k9 := HF.out.2.2
            refine bodyPost_ret (v := stepB) (by simp [results, Tryz.results142, k9, go_sem, stepB]) rfl ?_
            rw [HQ.out]
            exact ⟨rfl, _, HF.out.1, HF.out.2.1⟩
    · have HQ : Hid (symX L (s.data.toList.drop (a + L.length)) = some (⟨.name, L, 0⟩, L.length)) := by
        unfold symX
        rw [Hid, if_pos h32, if_neg (fun q => h46 q.1)]
      have hsum : ((a + L.length : Nat) : Int) = (a : Int) + (L.length : Int) := by omega
      have HA := HS.out.2.2 W1 pv ⟨.name, L, 0⟩ (a + L.length)
      rw [hsum] at HA
      have HA := Lib.hid HA
      clear h32 hsum
      go_wp2_with fail
      refine (HA.out H1.out).mono ?_
      rintro e W2 ⟨rfl, pv', hL2, hT2⟩
      have hfin := cut_fin HS.out.1 HB1.out hL2 hT2 (.func (.func 98) #[] #[])
      have k7 := hfin.1.cell 0
      have k8 := hfin.1.frozen 0
      simp only [List.getElem?_toArray, List.getElem?_cons_zero] at k7
      have hst : (store ⟨W.heap.size, 0, none⟩ (.func (.func 98) #[] #[])).run Tryz.prog W2 = .ok () (W2.setCell ⟨W.heap.size, 0, none⟩ (.func (.func 98) #[] #[])) := by
        rw [run_store _ _ _ _ _ rfl, k7, k8]
        rfl
      have HF := Lib.hid hfin.2
      clear hfin hL2 hT2
      go_wp2_with fail
      generalize W2.setCell ⟨W.heap.size, 0, none⟩ (.func (.func 98) #[] #[]) = W5 at *
      have k9 := HF.out.2.2
      refine bodyPost_ret (v := stepB) (by simp [results, Tryz.results142, k9, go_sem, stepB]) rfl ?_
      rw [HQ.out]
      exact ⟨rfl, _, HF.out.1, HF.out.2.1⟩
  · rw [if_neg h32] at he
    subst he
    have HQ : Hid (symX L (s.data.toList.drop (a + L.length)) = none) := if_neg h32
    refine And.intro rfl ?_
    rw [HQ.out]
    exact ⟨rfl, H1.out.below⟩
end Go.Proofs.YthfciekhmbfmfaaGreatDoor

/- The lexemes of a text, step by step; what each step of the lexer cuts is the lexeme. -/
namespace Go.Proofs.YthfciekhmbfmfaaGreatDoor
open Go.RowKit Go

theorem run_len {f : UInt8 → Bool} {c : UInt8} (r : List UInt8) (h : f c = true) : 1 ≤ (runL f (c :: r)).length ∧ (runL f (c :: r)).length ≤ r.length + 1 := by
  have h1 := (List.takeWhile_sublist (l := c :: r) f).length_le
  rw [runL, List.takeWhile_cons, if_pos h] at *
  simp only [List.length_cons] at *
  omega
theorem named_of {c : UInt8} (h : smallB c.toNat = true ∨ cap_B c.toNat = true ∨ digB c.toNat = true) : naB c = true := by
  rw [naB, ← word_named, wordB]
  rcases h with h | h | h <;> simp [h]
theorem quot_len {c : UInt8} {r o k : List UInt8} (h : quotL c r = some (o, k)) : k.length < r.length := quotL_rest c _ r o k (Nat.le_refl _) h
/-- The lexeme, as the steps cut it. -/
theorem tok_small {c : UInt8} {r : List UInt8} (h1 : smallB c.toNat = true) : tokF (c :: r) = nameX .name (runL naB (c :: r)) := by
  rw [tokF, if_pos h1]; rfl
theorem tok_cap {c : UInt8} {r : List UInt8} (h1 : smallB c.toNat = false) (h2 : cap_B c.toNat = true) : tokF (c :: r) = nameX .var (runL naB (c :: r)) := by
  rw [tokF, if_neg (by simp [h1]), if_pos h2]; rfl
theorem tok_dig {c : UInt8} {r : List UInt8} (h1 : smallB c.toNat = false) (h2 : cap_B c.toNat = false) (h3 : digB c.toNat = true) : tokF (c :: r) = intX (runL naB (c :: r)) := by
  rw [tokF, if_neg (by simp [h1]), if_neg (by simp [h2]), if_pos (show diB c = true from h3)]; rfl
theorem tok_sym {c : UInt8} {r : List UInt8} (h1 : smallB c.toNat = false) (h2 : cap_B c.toNat = false) (h3 : digB c.toNat = false) (h4 : symbolB c.toNat = true) : tokF (c :: r) = symX (runL syB (c :: r)) ((c :: r).drop (runL syB (c :: r)).length) := by
  rw [tokF, if_neg (by simp [h1]), if_neg (by simp [h2]), if_neg (show ¬ diB c = true by simp [diB, h3]), if_pos (show syB c = true from h4)]
  unfold symX
  by_cases h : runL syB (c :: r) = [46]
  · rw [h]
    rfl
  · simp only [h, false_and, if_false]
theorem tok_sign {c : UInt8} {r : List UInt8} (h1 : smallB c.toNat = false) (h2 : cap_B c.toNat = false) (h3 : digB c.toNat = false) (h4 : symbolB c.toNat = false) (h5 : signB c.toNat = true) : tokF (c :: r) = some (⟨.sign, [c], 0⟩, 1) := by
  rw [tokF, if_neg (by simp [h1]), if_neg (by simp [h2]), if_neg (show ¬ diB c = true by simp [diB, h3]), if_neg (show ¬ syB c = true by simp [syB, h4]), if_pos h5]
theorem tok_39 {r : List UInt8} : tokF (39 :: r) = quotX .quoted 1 32 (r.length + 1) (quotL 39 r) := by
  rw [tokF, if_neg (by decide), if_neg (by decide), if_neg (by decide), if_neg (by decide), if_neg (by decide), if_pos rfl]; rfl
theorem tok_34 {r : List UInt8} : tokF (34 :: r) = quotX .str 0 255 (r.length + 1) (quotL 34 r) := by
  rw [tokF, if_neg (by decide), if_neg (by decide), if_neg (by decide), if_neg (by decide), if_neg (by decide), if_neg (by decide), if_pos rfl]
  unfold quotX
  cases quotL 34 r with
  | none => rfl
  | some x => simp
theorem tok_none {c : UInt8} {r : List UInt8} (h : stepF c = none) : tokF (c :: r) = none := by
  unfold stepF at h
  rw [tokF]
  repeat' split at h
  all_goals first | (cases h; done) | skip
  simp_all [diB, syB]
theorem nameX_len {k : TK} {L : List UInt8} {t : Tok} {m : Nat} (h : nameX k L = some (t, m)) : m = L.length := by
  unfold nameX at h
  split at h
  · cases h; rfl
  · cases h
theorem intX_len {L : List UInt8} {t : Tok} {m : Nat} (h : intX L = some (t, m)) : m = L.length := by
  unfold intX at h
  split at h
  · cases h; rfl
  · cases h
theorem symX_len {L r : List UInt8} {t : Tok} {m : Nat} (h : symX L r = some (t, m)) : m = L.length := by
  unfold symX at h
  split at h
  · split at h
    · rename_i q
      cases h
      rw [q.1]; rfl
    · cases h; rfl
  · cases h
theorem quotX_len {k : TK} {lo hi rest : Nat} {x : Option (List UInt8 × List UInt8)} {t : Tok} {m : Nat} (h : quotX k lo hi rest x = some (t, m)) : ∃ o r, x = some (o, r) ∧ m = rest - r.length := by
  unfold quotX at h
  split at h
  · rename_i o r
    split at h
    · cases h; exact ⟨o, r, rfl, rfl⟩
    · cases h
  · cases h
/-- A lexeme has a byte, and ends within the text. -/
theorem tok_len {c : UInt8} {r : List UInt8} {t : Tok} {m : Nat} (h : tokF (c :: r) = some (t, m)) : 1 ≤ m ∧ m ≤ r.length + 1 := by
  cases h1 : smallB c.toNat with
  | true => rw [tok_small h1] at h; rw [nameX_len h]; exact run_len r (named_of (.inl h1))
  | false =>
    cases h2 : cap_B c.toNat with
    | true => rw [tok_cap h1 h2] at h; rw [nameX_len h]; exact run_len r (named_of (.inr (.inl h2)))
    | false =>
      cases h3 : digB c.toNat with
      | true => rw [tok_dig h1 h2 h3] at h; rw [intX_len h]; exact run_len r (named_of (.inr (.inr h3)))
      | false =>
        cases h4 : symbolB c.toNat with
        | true => rw [tok_sym h1 h2 h3 h4] at h; rw [symX_len h]; exact run_len r h4
        | false =>
          cases h5 : signB c.toNat with
          | true => rw [tok_sign h1 h2 h3 h4 h5] at h; cases h; exact ⟨Nat.le_refl _, by omega⟩
          | false =>
            by_cases h39 : c = 39
            · subst h39
              rw [tok_39] at h
              obtain ⟨o, k, hq, rfl⟩ := quotX_len h
              have := quot_len hq
              omega
            · by_cases h34 : c = 34
              · subst h34
                rw [tok_34] at h
                obtain ⟨o, k, hq, rfl⟩ := quotX_len h
                have := quot_len hq
                omega
              · rw [tok_none (by unfold stepF; simp [h1, h2, h3, h4, h5, h39, h34])] at h
                cases h
theorem lexN_eq (tot : Nat) : ∀ (n m : Nat) (l : List UInt8), l.length < n → l.length < m → lexN tot n l = lexN tot m l := by
  intro n
  induction n with
  | zero => intro m l h _; omega
  | succ n ih =>
    intro m l h h2
    cases m with
    | zero => omega
    | succ m =>
      have hsk := skipL_le _ l (Nat.le_refl _)
      rw [lexN, lexN]
      generalize skipL l = D at *
      obtain ⟨k, b⟩ := D
      cases b with
      | false => rfl
      | true =>
        cases k with
        | nil => rfl
        | cons c r =>
          simp only [List.length_cons] at hsk
          cases ht : tokF (c :: r) with
          | none => simp only [ht]
          | some x =>
            obtain ⟨t, j⟩ := x
            have hj := tok_len ht
            have hd : ((c :: r).drop j).length = r.length + 1 - j := by simp
            simp only [ht]
            rw [ih m ((c :: r).drop j) (by omega) (by omega)]
end Go.Proofs.YthfciekhmbfmfaaGreatDoor

/- A step that cuts a lexeme, whichever it is. -/
namespace Go.Proofs.YthfciekhmbfmfaaGreatDoor
open Go.RowKit Go

theorem step_enters {c : UInt8} {f : FuncId} (h : stepF c = some f) : ∀ args w, (callFunc f args).run Tryz.prog w = .ok (.enter f args) w := by
  unfold stepF at h
  split at h
  · cases h; exact enters_of Tryz.func136 (by kernel_rfl) rfl
  split at h
  · cases h; exact enters_of Tryz.func138 (by kernel_rfl) rfl
  split at h
  · cases h; exact enters_of Tryz.func140 (by kernel_rfl) rfl
  split at h
  · cases h; exact enters_of Tryz.func142 (by kernel_rfl) rfl
  split at h
  · cases h; exact enters_of Tryz.func144 (by kernel_rfl) rfl
  split at h
  · cases h; exact enters_of Tryz.func145 (by kernel_rfl) rfl
  split at h
  · cases h; exact enters_of Tryz.func146 (by kernel_rfl) rfl
  · cases h
theorem step_any (w : World) (B : Nat) (s : ByteArray) (k : Nat) (xs : List Lx) (pv : Value) (W : World) (c : UInt8) (r : List UInt8) (f : FuncId) (h : LxSt w B s k xs pv W) (hx : xs.length ≤ 100000) (hk : k < s.size) (hs : s.size ≤ 1000000) (hd : s.data.toList.drop k = c :: r) (hf : stepF c = some f) :
    Calls Tryz.prog f #[.pointer (some ⟨B, 0, none⟩)] W (CutQ w B s k xs pv (tokF (c :: r)) W) := by
  have hdc := drop_cons s k hk
  rw [hd] at hdc
  obtain ⟨hc, hr⟩ := List.cons.inj hdc
  have hlen : s.size - k = r.length + 1 := by
    have := congrArg List.length hd
    simp at this
    omega
  unfold stepF at hf
  split at hf
  · rename_i h1
    cases hf
    rw [tok_small h1, ← hd]
    exact cutName_any w B s k xs pv W h hx (by omega) hs
  rename_i h1
  have h1 : smallB c.toNat = false := by simpa using h1
  split at hf
  · rename_i h2
    cases hf
    rw [tok_cap h1 h2, ← hd]
    exact cutVar_any w B s k xs pv W h hx (by omega) hs
  rename_i h2
  have h2 : cap_B c.toNat = false := by simpa using h2
  split at hf
  · rename_i h3
    cases hf
    rw [tok_dig h1 h2 h3, ← hd]
    exact cutInt_any w B s k xs pv W h hx (by omega) hs
  rename_i h3
  have h3 : digB c.toNat = false := by simpa using h3
  split at hf
  · rename_i h4
    cases hf
    rw [tok_sym h1 h2 h3 h4, ← hd, List.drop_drop]
    exact cutSymbols_any w B s k xs pv W h hx (by omega) hs
  rename_i h4
  have h4 : symbolB c.toNat = false := by simpa using h4
  split at hf
  · rename_i h5
    cases hf
    rw [tok_sign h1 h2 h3 h4 h5, hc]
    exact cutSign_any w B s k xs pv W h hx hk hs
  split at hf
  · rename_i h39
    cases hf
    subst h39
    rw [tok_39, ← hlen]
    have := cutQuoted_any w B s k xs pv W h hx hk hs
    rw [← hc, ← hr] at this
    exact this
  split at hf
  · rename_i h34
    cases hf
    subst h34
    rw [tok_34, ← hlen]
    have := cutStr_any w B s k xs pv W h hx hk hs
    rw [← hc, ← hr] at this
    exact this
  · cases hf
end Go.Proofs.YthfciekhmbfmfaaGreatDoor
