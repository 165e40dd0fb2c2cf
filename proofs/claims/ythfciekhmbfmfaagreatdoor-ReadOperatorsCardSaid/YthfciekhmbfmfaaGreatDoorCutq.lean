/- The lexer's steps that cut what stands in quotes. -/
import Derived.Test.YthfciekhmbfmfaaGreatDoorNamed
namespace Go.Proofs.YthfciekhmbfmfaaGreatDoor
open Go.RowKit Go

theorem quotL_rest (q : UInt8) : ∀ (n : Nat) (l o r : List UInt8), l.length ≤ n → quotL q l = some (o, r) → r.length < l.length := by
  intro n
  induction n with
  | zero =>
    intro l o r h hq
    obtain rfl : l = [] := List.length_eq_zero_iff.1 (by omega)
    cases hq
  | succ n ih =>
    intro l o r h hq
    cases l with
    | nil => cases hq
    | cons c l =>
      by_cases hc : c = q
      · subst hc
        rw [quotL_end] at hq
        cases hq
        simp
      · by_cases h0 : (unqF q (c :: l)).2 = 0
        · rw [quotL_none hc h0] at hq
          cases hq
        · rw [quotL_step hc h0, Option.map_eq_some_iff] at hq
          obtain ⟨⟨o2, r2⟩, h2, h3⟩ := hq
          simp only [Prod.mk.injEq] at h3
          obtain ⟨_, rfl⟩ := h3
          have hd : ((c :: l).drop (unqF q (c :: l)).2).length < (c :: l).length := by simp only [List.length_drop, List.length_cons]; omega
          have := ih _ o2 r2 (by simp only [List.length_cons] at h hd; omega) h2
          omega
/-- What stands in quotes, if it is of a fitting length; rest: how many bytes are left from the quote on. -/
def quotX (k : TK) (lo hi rest : Nat) (x : Option (List UInt8 × List UInt8)) : Option (Tok × Nat) :=
  match x with
  | some (o, r) => if lo ≤ o.length ∧ o.length ≤ hi then some (⟨k, o, 0⟩, rest - r.length) else none
  | none => none
set_option maxRecDepth 100000 in
set_option maxHeartbeats 4000000 in
theorem cutQuoted_any (w : World) (B : Nat) (s : ByteArray) (a : Nat) (xs : List Lx) (pv : Value) (W : World) (h : LxSt w B s a xs pv W) (hx : xs.length ≤ 100000) (ha : a < s.size) (hs : s.size ≤ 1000000) :
    Calls Tryz.prog 145 #[.pointer (some ⟨B, 0, none⟩)] W (CutQ w B s a xs pv (quotX .quoted 1 32 (s.size - a) (quotL s[a] (s.data.toList.drop (a + 1)))) W) := by
  have hnm := fun pv w hB => quoted_any B s a pv w hB ha hs
  have hrs : ∀ o r, quotL s[a] (s.data.toList.drop (a + 1)) = some (o, r) → r.length < (s.data.toList.drop (a + 1)).length := fun o r => quotL_rest s[a] _ _ o r (Nat.le_refl _)
  generalize quotL s[a] (s.data.toList.drop (a + 1)) = D at *
  have hadd := fun W pv t n h => add_any w B s a n xs t pv W h hx
  have HJ := Lib.hid (fun w => reject_any B s a pv w)
  have HS := Lib.hid (And.intro h (And.intro hnm hadd))
  have h0 := h.up (below_a1 (Nat.le_refl W.heap.size) (.cells #[.nilFunc] 133))
  have H0 := Lib.hid h0
  clear h h0 hnm hadd
  go_enter Tryz.func145, Tryz.ntmps145
  go_wp2_with fail
  refine (HS.out.2.1 pv _ H0.out.box).mono ?_
  rintro e W1 ⟨he, hB1⟩
  have h1 := H0.out.up hB1
  have l0 := h1.box.lt
  have HB1 : Hid (Below (alS W).heap.size (alS W) W1) := hB1
  have H1 := Lib.hid h1
  clear hB1 h1
  rcases D with _ | ⟨o, r⟩
  · have HQ : Hid (quotX .quoted 1 32 (s.size - a) none = none) := rfl
    change e = thrown a 20 at he
    subst he
    refine And.intro rfl ?_
    rw [HQ.out]
    exact ⟨rfl, H1.out.below⟩
  · have hr := hrs o r rfl
    have hdl : (s.data.toList.drop (a + 1)).length = s.size - (a + 1) := by simp
    rw [hdl] at hr
    change e = .returned (.tuple #[.string ⟨o.toArray⟩, .int .i64 ((s.size - r.length : Nat) : Int)]) at he
    subst he
    clear hrs hdl
    by_cases hok : 1 ≤ o.length ∧ o.length ≤ 32
    · have HQ : Hid (quotX .quoted 1 32 (s.size - a) (some (o, r)) = some (⟨.quoted, o, 0⟩, s.size - a - r.length)) := if_pos hok
      obtain ⟨n, hn⟩ : ∃ n, s.size - r.length = n := ⟨_, rfl⟩
      have hn2 : a + (s.size - a - r.length) = n := by omega
      rw [hn]
      have HA := Lib.hid (HS.out.2.2 W1 pv ⟨.quoted, o, 0⟩ n)
      have HN := Lib.hid hn2
      have f1 : ¬ ((o.length : Nat) : Int) < 1 := by omega
      have f2 : ((o.length : Nat) : Int) ≤ 32 := by omega
      clear hok hn hn2 hr
      go_wp2_with fail
      refine (HA.out H1.out).mono ?_
      rintro e W2 ⟨rfl, pv', hL2, hT2⟩
      rw [← HN.out] at hL2
      have hfin := cut_fin HS.out.1 HB1.out hL2 hT2 (.func (.func 98) #[] #[])
      have k7 := hfin.1.cell 0
      have k8 := hfin.1.frozen 0
      simp only [List.getElem?_toArray, List.getElem?_cons_zero] at k7
      have hst : (store ⟨W.heap.size, 0, none⟩ (.func (.func 98) #[] #[])).run Tryz.prog W2 = .ok () (W2.setCell ⟨W.heap.size, 0, none⟩ (.func (.func 98) #[] #[])) := by
        rw [run_store _ _ _ _ _ rfl, k7, k8]
        rfl
      have HF := Lib.hid hfin.2
      clear hfin hL2 hT2
      go_wp2_with fail
      generalize W2.setCell ⟨W.heap.size, 0, none⟩ (.func (.func 98) #[] #[]) = W5 at *
      have k9 := HF.out.2.2
      refine bodyPost_ret (v := stepB) (by simp [results, Tryz.results145, k9, go_sem, stepB]) rfl ?_
      rw [HQ.out]
      exact ⟨rfl, _, HF.out.1, HF.out.2.1⟩
    · have HQ : Hid (quotX .quoted 1 32 (s.size - a) (some (o, r)) = none) := if_neg hok
      by_cases f1 : ((o.length : Nat) : Int) < 1
      · clear hok hr
        go_wp2_with fail
        refine (HJ.out _ H1.out.box).mono ?_
        rintro e W2 ⟨rfl, rfl⟩
        refine And.intro rfl ?_
        rw [HQ.out]
        exact ⟨rfl, H1.out.below⟩
      · have f2 : ¬ ((o.length : Nat) : Int) ≤ 32 := by omega
        clear hok hr
        go_wp2_with fail
        refine (HJ.out _ H1.out.box).mono ?_
        rintro e W2 ⟨rfl, rfl⟩
        refine And.intro rfl ?_
        rw [HQ.out]
        exact ⟨rfl, H1.out.below⟩
set_option maxRecDepth 100000 in
set_option maxHeartbeats 4000000 in
theorem cutStr_any (w : World) (B : Nat) (s : ByteArray) (a : Nat) (xs : List Lx) (pv : Value) (W : World) (h : LxSt w B s a xs pv W) (hx : xs.length ≤ 100000) (ha : a < s.size) (hs : s.size ≤ 1000000) :
    Calls Tryz.prog 146 #[.pointer (some ⟨B, 0, none⟩)] W (CutQ w B s a xs pv (quotX .str 0 255 (s.size - a) (quotL s[a] (s.data.toList.drop (a + 1)))) W) := by
  have hnm := fun pv w hB => quoted_any B s a pv w hB ha hs
  have hrs : ∀ o r, quotL s[a] (s.data.toList.drop (a + 1)) = some (o, r) → r.length < (s.data.toList.drop (a + 1)).length := fun o r => quotL_rest s[a] _ _ o r (Nat.le_refl _)
  generalize quotL s[a] (s.data.toList.drop (a + 1)) = D at *
  have hadd := fun W pv t n h => add_any w B s a n xs t pv W h hx
  have HJ := Lib.hid (fun w => reject_any B s a pv w)
  have HS := Lib.hid (And.intro h (And.intro hnm hadd))
  have h0 := h.up (below_a1 (Nat.le_refl W.heap.size) (.cells #[.nilFunc] 133))
  have H0 := Lib.hid h0
  clear h h0 hnm hadd
  go_enter Tryz.func146, Tryz.ntmps146
  go_wp2_with fail
  refine (HS.out.2.1 pv _ H0.out.box).mono ?_
  rintro e W1 ⟨he, hB1⟩
  have h1 := H0.out.up hB1
  have l0 := h1.box.lt
  have HB1 : Hid (Below (alS W).heap.size (alS W) W1) := hB1
  have H1 := Lib.hid h1
  clear hB1 h1
  rcases D with _ | ⟨o, r⟩
  · have HQ : Hid (quotX .str 0 255 (s.size - a) none = none) := rfl
    change e = thrown a 20 at he
    subst he
    refine And.intro rfl ?_
    rw [HQ.out]
    exact ⟨rfl, H1.out.below⟩
  · have hr := hrs o r rfl
    have hdl : (s.data.toList.drop (a + 1)).length = s.size - (a + 1) := by simp
    rw [hdl] at hr
    change e = .returned (.tuple #[.string ⟨o.toArray⟩, .int .i64 ((s.size - r.length : Nat) : Int)]) at he
    subst he
    clear hrs hdl
    by_cases hok : 0 ≤ o.length ∧ o.length ≤ 255
    · have HQ : Hid (quotX .str 0 255 (s.size - a) (some (o, r)) = some (⟨.str, o, 0⟩, s.size - a - r.length)) := if_pos hok
      obtain ⟨n, hn⟩ : ∃ n, s.size - r.length = n := ⟨_, rfl⟩
      have hn2 : a + (s.size - a - r.length) = n := by omega
      rw [hn]
      have HA := Lib.hid (HS.out.2.2 W1 pv ⟨.str, o, 0⟩ n)
      have HN := Lib.hid hn2
      have f2 : ((o.length : Nat) : Int) ≤ 255 := by omega
      clear hok hn hn2 hr
      go_wp2_with fail
      refine (HA.out H1.out).mono ?_
      rintro e W2 ⟨rfl, pv', hL2, hT2⟩
      rw [← HN.out] at hL2
      have hfin := cut_fin HS.out.1 HB1.out hL2 hT2 (.func (.func 98) #[] #[])
      have k7 := hfin.1.cell 0
      have k8 := hfin.1.frozen 0
      simp only [List.getElem?_toArray, List.getElem?_cons_zero] at k7
      have hst : (store ⟨W.heap.size, 0, none⟩ (.func (.func 98) #[] #[])).run Tryz.prog W2 = .ok () (W2.setCell ⟨W.heap.size, 0, none⟩ (.func (.func 98) #[] #[])) := by
        rw [run_store _ _ _ _ _ rfl, k7, k8]
        rfl
      have HF := Lib.hid hfin.2
      clear hfin hL2 hT2
      go_wp2_with fail
      generalize W2.setCell ⟨W.heap.size, 0, none⟩ (.func (.func 98) #[] #[]) = W5 at *
      have k9 := HF.out.2.2
      refine bodyPost_ret (v := stepB) (by simp [results, Tryz.results146, k9, go_sem, stepB]) rfl ?_
      rw [HQ.out]
      exact ⟨rfl, _, HF.out.1, HF.out.2.1⟩
    · have HQ : Hid (quotX .str 0 255 (s.size - a) (some (o, r)) = none) := if_neg hok
      have f2 : ¬ ((o.length : Nat) : Int) ≤ 255 := by omega
      clear hok hr
      go_wp2_with fail
      refine (HJ.out _ H1.out.box).mono ?_
      rintro e W2 ⟨rfl, rfl⟩
      refine And.intro rfl ?_
      rw [HQ.out]
      exact ⟨rfl, H1.out.below⟩
end Go.Proofs.YthfciekhmbfmfaaGreatDoor

/- The lexer's step that cuts an integer. -/
namespace Go.Proofs.YthfciekhmbfmfaaGreatDoor
open Go.RowKit Go

def intX (L : List UInt8) : Option (Tok × Nat) :=
  match numN 0 L with
  | some n => some (⟨.int, [], n⟩, L.length)
  | none => none
theorem named_ge {n : Int} (h : namedB n = true) : 48 ≤ n ∧ n ≤ 122 := by
  simp only [namedB, smallB, capB, digB, inB, Bool.or_eq_true, Bool.and_eq_true, decide_eq_true_eq] at h
  omega
theorem num_step {n : Nat} {c : UInt8} {r : List UInt8} (h : diB c = true) (h2 : 10 * n + (c.toNat - 48) ≤ 2147483647) : numN n (c :: r) = numN (10 * n + (c.toNat - 48)) r := by rw [numN, if_pos ⟨h, h2⟩]
theorem num_stop {n : Nat} {c : UInt8} {r : List UInt8} (h : ¬ (diB c = true ∧ 10 * n + (c.toNat - 48) ≤ 2147483647)) : numN n (c :: r) = none := by rw [numN, if_neg h]
set_option maxRecDepth 100000 in
set_option maxHeartbeats 4000000 in
theorem cutInt_any (w : World) (B : Nat) (s : ByteArray) (a : Nat) (xs : List Lx) (pv : Value) (W : World) (h : LxSt w B s a xs pv W) (hx : xs.length ≤ 100000) (ha : a ≤ s.size) (hs : s.size ≤ 1000000) :
    Calls Tryz.prog 140 #[.pointer (some ⟨B, 0, none⟩)] W (CutQ w B s a xs pv (intX (runL naB (s.data.toList.drop a))) W) := by
  have hnm := fun pv w hB => runNamed_any B s a pv w hB ha hs
  have hall : ∀ c, c ∈ runL naB (s.data.toList.drop a) → naB c = true := fun c hc => (List.all_eq_true.1 (List.all_takeWhile (l := s.data.toList.drop a) (p := naB))) c hc
  have hLl : (runL naB (s.data.toList.drop a)).length ≤ 1000000 := by
    have h1 := (List.takeWhile_sublist (l := s.data.toList.drop a) naB).length_le
    have h2 : (s.data.toList.drop a).length = s.size - a := by simp
    simp only [runL]
    omega
  generalize runL naB (s.data.toList.drop a) = L at *
  have hadd := fun W pv n h => add_any w B s a (a + L.length) xs ⟨.int, [], n⟩ pv W h hx
  have HJ := Lib.hid (fun w => reject_any B s a pv w)
  have HS := Lib.hid (And.intro h (And.intro hnm hadd))
  have h0 := h.up (below_a1 (Nat.le_refl W.heap.size) (.cells #[.nilFunc] 133))
  have H0 := Lib.hid h0
  have HAL := Lib.hid hall
  clear h h0 hnm hadd hall
  go_enter Tryz.func140, Tryz.ntmps140
  go_wp2_with fail
  refine (HS.out.2.1 pv _ H0.out.box).mono ?_
  rintro e W1 ⟨rfl, hB1⟩
  have h1 := H0.out.up hB1
  have c1 := h1.box.cell 1
  have l0 := h1.box.lt
  simp only [List.getElem?_toArray, List.getElem?_cons_succ, List.getElem?_cons_zero] at c1
  have HB1 : Hid (Below (alS W).heap.size (alS W) W1) := hB1
  have H1 := Lib.hid h1
  clear hB1 h1
  obtain ⟨S, hS⟩ : ∃ S : ByteArray, (⟨L.toArray⟩ : ByteArray) = S := ⟨_, rfl⟩
  have hSl : S.data.toList = L := by rw [← hS]
  have hSz : S.size = L.length := size_list hSl
  rw [hS]
  have HSL := Lib.hid (And.intro hSl hSz)
  have hS6 : S.size ≤ 1000000 := by omega
  clear hS hSl hSz
  have HN0 : Hid (numN 0 L = numN 0 (L.drop 0)) := rfl
  go_wp2_with fail
  go_loopw [4, 10] (fun nv iv wr => ∃ k n : Nat, k ≤ S.size ∧ n ≤ 2147483647 ∧ iv = .int .i64 (k : Int) ∧ nv = .int .i64 (n : Int) ∧ wr = W1 ∧ Hid (numN 0 L = numN n (L.drop k))) (fun _ iv _ => S.size - (intOf iv).toNat)
  case atStart => exact ⟨0, 0, Nat.zero_le _, by omega, rfl, rfl, rfl, HN0⟩
  case round =>
    obtain ⟨k, n, hk, hn, rfl, rfl, rfl, hH⟩ := hrel
    by_cases hlt : k < S.size
    · have hkl : k < L.length := by have := HSL.out.2; omega
      have hLk := at_list HSL.out.1 k hlt
      rw [List.getElem?_eq_getElem hkl, Option.some.injEq] at hLk
      have hna := HAL.out _ (List.getElem_mem hkl)
      rw [← hLk] at hna
      have hge := named_ge (n := (S[k].toNat : Int)) hna
      have HDC : Hid (L.drop k = S[k] :: L.drop (k + 1)) := by rw [Hid, List.drop_eq_getElem_cons hkl, hLk]
      have HC := Lib.hid (fun w => isDigit_any (S[k].toNat : Int) w)
      have hw1 : IntKind.wrap .i64 (10 * (n : Int)) = 10 * (n : Int) := by simp [IntKind.wrap, IntKind.bits, IntKind.signed]; omega
      have hw2 : IntKind.wrap .u8 ((S[k].toNat : Int) - 48) = (S[k].toNat : Int) - 48 := by simp [IntKind.wrap, IntKind.bits, IntKind.signed]; omega
      have hw3 : IntKind.wrap .i64 (10 * (n : Int) + ((S[k].toNat : Int) - 48)) = 10 * (n : Int) + ((S[k].toNat : Int) - 48) := by simp [IntKind.wrap, IntKind.bits, IntKind.signed]; omega
      have hw4 : IntKind.wrap .i64 ((S[k].toNat : Int) - 48) = (S[k].toNat : Int) - 48 := by simp [IntKind.wrap, IntKind.bits, IntKind.signed]; omega
      have hE : 10 * (n : Int) + ((S[k].toNat : Int) - 48) = ((10 * n + (S[k].toNat - 48) : Nat) : Int) := by omega
      clear hLk hna
      cases hd : digB S[k].toNat with
      | true =>
        by_cases hm : 10 * n + (S[k].toNat - 48) ≤ 2147483647
        · have HV : Hid (numN 0 L = numN (10 * n + (S[k].toNat - 48)) (L.drop (k + 1))) := by rw [Hid, hH.out, HDC.out, num_step hd hm]
          have hmi : 10 * (n : Int) + ((S[k].toNat : Int) - 48) ≤ 2147483647 := by omega
          have HE := Lib.hid (And.intro hE hm)
          clear hE hm
          go_wp2_with fail
          refine (HC.out _).mono ?_
          rintro e w2 ⟨rfl, rfl⟩
          rw [hd]
          go_wp2_with fail
          go_roundw
          case rel => exact ⟨k + 1, 10 * n + (S[k].toNat - 48), hlt, HE.out.2, by go_num, by rw [HE.out.1], by trivial, HV⟩
          case measure => simp [intOf]; omega
        · have HV : Hid (intX L = none) := by unfold intX; rw [Hid, hH.out, HDC.out, num_stop (fun q => hm q.2)]
          have hmi : ¬ 10 * (n : Int) + ((S[k].toNat : Int) - 48) ≤ 2147483647 := by omega
          clear hE hm
          go_wp2_with fail
          refine (HC.out _).mono ?_
          rintro e w2 ⟨rfl, rfl⟩
          rw [hd]
          go_wp2_with fail
          refine (HJ.out _ H1.out.box).mono ?_
          rintro e W2 ⟨rfl, rfl⟩
          refine And.intro rfl ?_
          rw [HV.out]
          exact ⟨rfl, H1.out.below⟩
      | false =>
        have HV : Hid (intX L = none) := by unfold intX; rw [Hid, hH.out, HDC.out, num_stop (fun q => by have := q.1; rw [diB, hd] at this; cases this)]
        clear hE
        go_wp2_with fail
        refine (HC.out _).mono ?_
        rintro e w2 ⟨rfl, rfl⟩
        rw [hd]
        go_wp2_with fail
        refine (HJ.out _ H1.out.box).mono ?_
        rintro e W2 ⟨rfl, rfl⟩
        refine And.intro rfl ?_
        rw [HV.out]
        exact ⟨rfl, H1.out.below⟩
    · have HQ : Hid (intX L = some (⟨.int, [], n⟩, L.length)) := by
        unfold intX
        rw [Hid, hH.out, List.drop_of_length_le (by have := HSL.out.2; omega)]
        rfl
      have hsum : ((a + L.length : Nat) : Int) = (a : Int) + (S.size : Int) := by have := HSL.out.2; omega
      have HA := Lib.hid (HS.out.2.2 wr pv n)
      rw [hsum] at HA
      clear hsum
      go_wp2_with fail
      refine (HA.out H1.out).mono ?_
      rintro e W2 ⟨rfl, pv', hL2, hT2⟩
      have hfin := cut_fin HS.out.1 HB1.out hL2 hT2 (.func (.func 98) #[] #[])
      have k7 := hfin.1.cell 0
      have k8 := hfin.1.frozen 0
      simp only [List.getElem?_toArray, List.getElem?_cons_zero] at k7
      have hst : (store ⟨W.heap.size, 0, none⟩ (.func (.func 98) #[] #[])).run Tryz.prog W2 = .ok () (W2.setCell ⟨W.heap.size, 0, none⟩ (.func (.func 98) #[] #[])) := by
        rw [run_store _ _ _ _ _ rfl, k7, k8]
        rfl
      have HF := Lib.hid hfin.2
      clear hfin hL2 hT2
      go_wp2_with fail
      generalize W2.setCell ⟨W.heap.size, 0, none⟩ (.func (.func 98) #[] #[]) = W5 at *
      have k9 := HF.out.2.2
      refine bodyPost_ret (v := stepB) (by simp [results, Tryz.results140, k9, go_sem, stepB]) rfl ?_
      rw [HQ.out]
      exact ⟨rfl, _, HF.out.1, HF.out.2.1⟩
end Go.Proofs.YthfciekhmbfmfaaGreatDoor
