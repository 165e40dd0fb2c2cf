/- How long what is written is, whatever the term is; which operators there are. -/
import Derived.Test.YthfciekhmbfmfaaGreatDoorWriF
namespace Go.Proofs.YthfciekhmbfmfaaGreatDoor
open Go.RowKit Go Go.Maps

mutual
/-- All nodes are right by themselves. -/
def Tr.fine : Tr → Bool
  | .node k n s l => nodeB k n s l.length && fineL l
def fineL : List Tr → Bool
  | [] => true
  | t :: ts => t.fine && fineL ts
end
theorem fineL_all (l : List Tr) : fineL l = l.all Tr.fine := by
  induction l with
  | nil => rfl
  | cons t ts ih => simp [fineL, ih]
mutual
theorem fine_preT (d : Int) : ∀ T : Tr, (preT d T).all (fun x => x.2.okNode) = T.fine
  | .node k n s l => by simp only [preT, List.all_cons, Tr.fine, fine_preL (d + 1) l]; rfl
theorem fine_preL (d : Int) : ∀ l : List Tr, (preL d l).all (fun x => x.2.okNode) = fineL l
  | [] => rfl
  | t :: ts => by simp only [preL, List.all_append, fineL, fine_preT d t, fine_preL d ts]
end
theorem isB_fine (T : Tr) : isB T = (decide (T.size ≤ 4000) && decide (T.deep ≤ 600) && T.fine) := by rw [isB, nodesB, fine_preT]
theorem qtL_len (l : List UInt8) : (qtL l).length ≤ 2 * l.length + 1 := by
  have := flat_len escq 2 escq_len l
  simp only [qtL, List.length_cons]
  omega
theorem qsL_len (l : List UInt8) : (qsL l).length ≤ 4 * l.length + 1 := by
  have := flat_len escs 4 escs_len l
  simp only [qsL, List.length_cons]
  omega
theorem nameF_len (l : List UInt8) : (nameF l).length ≤ 2 * l.length + 2 := by
  have h := qtL_len l
  unfold nameF
  repeat' split
  all_goals first | omega | (simp only [List.length_append, List.length_cons, List.length_nil]; omega)
theorem nameF_ne (l : List UInt8) : 0 < (nameF l).length := by
  cases l with
  | nil => decide
  | cons c r =>
    unfold nameF
    repeat' split
    all_goals simp
theorem atomF_len (l : List UInt8) : (atomF l).length ≤ 2 * l.length + 2 := by
  have h := qtL_len l
  have h2 := nameF_len l
  unfold atomF
  split
  · omega
  · split
    · simp only [List.length_append, List.length_cons, List.length_nil]; omega
    · exact h2
theorem atomF_ne (l : List UInt8) : 0 < (atomF l).length := by
  unfold atomF
  split
  · rename_i h; rw [h]; decide
  · split
    · simp
    · exact nameF_ne l
theorem intL_len (n : Int) (h : -2147483647 ≤ n ∧ n ≤ 2147483647) : 0 < (intL n).length ∧ (intL n).length ≤ 21 := by
  have key : ∀ m : Nat, m ≤ 2147483647 → 0 < (Lib.decDigits m).length ∧ (Lib.decDigits m).length ≤ 20 := fun m hm => by
    have h1 := Lib.nDigits_le20 m (by omega)
    rw [Lib.decDigits_length]
    refine ⟨?_, h1⟩
    rw [← Lib.decDigits_length]
    rw [Lib.decDigits]
    split <;> simp
  unfold intL
  split
  · have := key n.natAbs (by omega)
    simp only [List.length_cons]
    omega
  · have := key n.toNat (by omega)
    omega
theorem putF_len (st : WS) (s : List UInt8) : (putF st s).out.length ≤ st.out.length + (s.length + 1) := by
  unfold putF
  split <;> simp <;> omega
/-! ## Operators -/
theorem tab_mem {l : List (ByteArray × Op3)} {k : List UInt8} {o : Op3} (h : tabF l k = some o) : ∃ x ∈ l, x.2 = o := by
  unfold tabF at h
  cases hf : (l.reverse.find? fun x => x.1.data.toList == k) with
  | none => rw [hf] at h; cases h
  | some x => rw [hf] at h; cases h; exact ⟨x, List.mem_reverse.1 (List.mem_of_find?_eq_some hf), rfl⟩
theorem inf_good (s : ByteArray) : infV s = (0, 0, 0) ∨ (0 < (infV s).1 ∧ (infV s).1 ≤ 1200 ∧ 0 < (infV s).2.1 ∧ (infV s).2.1 ≤ 1200 ∧ 0 < (infV s).2.2 ∧ (infV s).2.2 ≤ 1200) := by
  cases h : tabF opsI s.data.toList with
  | none => left; unfold infV; rw [h]; rfl
  | some o =>
    right
    obtain ⟨x, hx, rfl⟩ := tab_mem h
    have key : (opsI.all fun x => decide (0 < x.2.1 ∧ x.2.1 ≤ 1200 ∧ 0 < x.2.2.1 ∧ x.2.2.1 ≤ 1200 ∧ 0 < x.2.2.2 ∧ x.2.2.2 ≤ 1200)) = true := by decide +kernel
    have e : infV s = x.2 := by unfold infV; rw [h]; rfl
    rw [e]
    exact of_decide_eq_true (List.all_eq_true.1 key x hx)
theorem pre_good (s : ByteArray) : preV s = (0, 0, 0) ∨ (0 < (preV s).1 ∧ (preV s).1 ≤ 1200 ∧ (preV s).2.1 = 0 ∧ 0 < (preV s).2.2 ∧ (preV s).2.2 ≤ 1200) := by
  cases h : tabF opsP s.data.toList with
  | none => left; unfold preV; rw [h]; rfl
  | some o =>
    right
    obtain ⟨x, hx, rfl⟩ := tab_mem h
    have key : (opsP.all fun x => decide (0 < x.2.1 ∧ x.2.1 ≤ 1200 ∧ x.2.2.1 = 0 ∧ 0 < x.2.2.2 ∧ x.2.2.2 ≤ 1200)) = true := by decide +kernel
    have e : preV s = x.2 := by unfold preV; rw [h]; rfl
    rw [e]
    exact of_decide_eq_true (List.all_eq_true.1 key x hx)
theorem op_zero {plain : Bool} {k n : Int} {s : ByteArray} {l : List Tr} (h : plain = true ∨ k ≠ 5) : opF plain (.node k n s l) = (0, 0, 0) := by
  match l with
  | [] => simp [opF, h]
  | [x] => simp [opF, h]
  | [x, y] => simp [opF, h]
  | _ :: _ :: _ :: _ => simp [opF, h]
theorem op_one {plain : Bool} {n : Int} {s : ByteArray} {x : Tr} (h : plain = false) : opF plain (.node 5 n s [x]) = if s.data.toList = [45] ∧ (x.kind = 2 ∨ (opF plain x).1 > (preV s).2.2) then (0, 0, 0) else preV s := by
  rw [opF]; simp only [h, Bool.false_eq_true, ne_eq, not_true_eq_false, or_self, if_false]
theorem op_two {plain : Bool} {n : Int} {s : ByteArray} {x y : Tr} (h : plain = false) : opF plain (.node 5 n s [x, y]) = infV s := by
  rw [opF]; simp only [h, Bool.false_eq_true, ne_eq, not_true_eq_false, or_self, if_false]
theorem op_many {plain : Bool} {n : Int} {s : ByteArray} {l : List Tr} (h1 : l.length ≠ 1) (h2 : l.length ≠ 2) : opF plain (.node 5 n s l) = (0, 0, 0) := by
  match l, h1, h2 with
  | [], _, _ => simp [opF]
  | [_], h1, _ => exact absurd rfl h1
  | [_, _], _, h2 => exact absurd rfl h2
  | _ :: _ :: _ :: _, _, _ => simp [opF]
/-- What has an operator. -/
theorem op_form {plain : Bool} {T : Tr} (h : (opF plain T).1 ≠ 0) : plain = false ∧ ((∃ n s x, T = .node 5 n s [x] ∧ opF plain T = preV s ∧ 0 < (preV s).1) ∨ ∃ n s x y, T = .node 5 n s [x, y] ∧ opF plain T = infV s ∧ 0 < (infV s).1) := by
  cases T with
  | node k n s l =>
    by_cases hk : plain = true ∨ k ≠ 5
    · exact absurd (by rw [op_zero hk]) h
    · have hp : plain = false := by cases plain <;> simp_all
      have hk5 : k = 5 := by
        by_cases e : k = 5
        · exact e
        · exact absurd (.inr e) hk
      subst hk5
      refine ⟨hp, ?_⟩
      match l, h with
      | [], h => exact absurd (by rw [op_many (by simp) (by simp)]) h
      | [x], h =>
        left
        rw [op_one hp] at h ⊢
        split at h
        · exact absurd rfl h
        · rename_i hc
          rw [if_neg hc]
          rcases pre_good s with e | e
          · rw [e] at h; exact absurd rfl h
          · exact ⟨n, s, x, rfl, rfl, e.1⟩
      | [x, y], h =>
        right
        rw [op_two hp] at h ⊢
        rcases inf_good s with e | e
        · rw [e] at h; exact absurd rfl h
        · exact ⟨n, s, x, y, rfl, rfl, e.1⟩
      | a :: b :: c :: d, h => exact absurd (by rw [op_many (by simp) (by simp)]) h
theorem op_range (plain : Bool) (T : Tr) : 0 ≤ (opF plain T).1 ∧ (opF plain T).1 ≤ 1200 ∧ 0 ≤ (opF plain T).2.1 ∧ (opF plain T).2.1 ≤ 1200 ∧ 0 ≤ (opF plain T).2.2 ∧ (opF plain T).2.2 ≤ 1200 := by
  cases T with
  | node k n s l =>
    by_cases hk : plain = true ∨ k ≠ 5
    · rw [op_zero hk]; decide
    · have hp : plain = false := by cases plain <;> simp_all
      have hk5 : k = 5 := by
        by_cases e : k = 5
        · exact e
        · exact absurd (.inr e) hk
      subst hk5
      match l with
      | [] => rw [op_many (by simp) (by simp)]; decide
      | [x] =>
        rw [op_one hp]
        split
        · decide
        · rcases pre_good s with e | e
          · rw [e]; decide
          · omega
      | [x, y] =>
        rw [op_two hp]
        rcases inf_good s with e | e
        · rw [e]; decide
        · omega
      | a :: b :: c :: d => rw [op_many (by simp) (by simp)]; decide
/-! ## Lengths -/
theorem size_pos (T : Tr) : 1 ≤ T.size := by cases T; simp only [Tr.size]; omega
theorem fine_node {k n : Int} {s : ByteArray} {l : List Tr} (h : (Tr.node k n s l).fine = true) : nodeB k n s l.length = true ∧ fineL l = true := by
  simpa only [Tr.fine, Bool.and_eq_true] using h
theorem name_size {s : ByteArray} (h : nameB s = true) : 1 ≤ s.size ∧ s.size ≤ 32 := by
  unfold nameB at h
  simp only [Bool.and_eq_true, decide_eq_true_eq] at h
  exact h.1
theorem data_len (s : ByteArray) : s.data.toList.length = s.size := by rw [Array.length_toList]; rfl
theorem fine_one {n : Int} {s : ByteArray} {l : List Tr} (h : nodeB 1 n s l.length = true) : 0 ≤ n ∧ n < 100000 := by
  unfold nodeB at h; simp at h; omega
theorem fine_two {n : Int} {s : ByteArray} {l : List Tr} (h : nodeB 2 n s l.length = true) : -2147483647 ≤ n ∧ n ≤ 2147483647 := by
  unfold nodeB at h; simp at h; omega
theorem fine_three {n : Int} {s : ByteArray} {l : List Tr} (h : nodeB 3 n s l.length = true) : nameB s = true := by
  unfold nodeB at h; simp at h; exact h.1.2
theorem fine_four {n : Int} {s : ByteArray} {l : List Tr} (h : nodeB 4 n s l.length = true) : s.size ≤ 255 := by
  unfold nodeB at h; simp at h; exact h.1.2
theorem fine_five {n : Int} {s : ByteArray} {l : List Tr} (h : nodeB 5 n s l.length = true) : nameB s = true ∧ 1 ≤ l.length ∧ l.length ≤ 16 := by
  unfold nodeB at h; simp at h; exact ⟨h.1.1.2, by have := h.1.2; cases l <;> simp_all, h.2⟩
section
variable {vn : Nat → List UInt8} {plain : Bool} {rec : Int → Tr → WS → WS}
/-- What is written at a node's parts is no longer than that. -/
def RecLen (rec : Int → Tr → WS → WS) : Prop := ∀ m t st, Tr.fine t = true → (rec m t st).out.length ≤ st.out.length + (5000 * t.size - 1000)
theorem tailW_len (hr : RecLen rec) : ∀ (l : List Tr) (st : WS), fineL l = true → (tailW rec l st).out.length ≤ st.out.length + 5000 * sizeL l
  | [], st, _ => by simp [tailW]
  | t :: ts, st, h => by
    simp only [fineL, Bool.and_eq_true] at h
    have h1 := hr 999 t (putF st [44]) h.1
    have h2 := putF_len st [44]
    have h3 := tailW_len hr ts (rec 999 t (putF st [44])) h.2
    have h4 := size_pos t
    simp only [tailW, sizeL, List.length_cons, List.length_nil] at *
    omega
theorem partsW_len (hr : RecLen rec) : ∀ (l : List Tr) (st : WS), fineL l = true → (partsW rec l st).out.length ≤ st.out.length + 5000 * sizeL l
  | [], st, _ => by simp [partsW]
  | t :: ts, st, h => by
    simp only [fineL, Bool.and_eq_true] at h
    have h1 := hr 999 t st h.1
    have h3 := tailW_len hr ts (rec 999 t st) h.2
    have h4 := size_pos t
    simp only [partsW, sizeL] at *
    omega
theorem restW_len (hr : RecLen rec) : ∀ (n : Nat) (T : Tr) (st : WS), T.fine = true → (restW rec n T st).out.length ≤ st.out.length + 5000 * T.size
  | 0, T, st, _ => by simp [restW]
  | n + 1, .node k i s l, st, h => by
    rw [restW]
    by_cases hc : cellB (.node k i s l) = true
    · rw [if_pos hc]
      have hl : l.length = 2 := by
        unfold cellB at hc
        simp only [Bool.and_eq_true, decide_eq_true_eq] at hc
        exact hc.2
      match l, hl with
      | [a, b], _ =>
        have hg := (fine_node h).2
        simp only [fineL, Bool.and_eq_true, and_true] at hg
        have h1 := hr 999 a (putF st [44]) hg.1
        have h2 := putF_len st [44]
        have h3 := restW_len hr n b (rec 999 a (putF st [44])) hg.2
        have h4 := size_pos a
        simp only [Tr.size, sizeL, List.getD_cons_zero, List.getD_cons_succ, List.length_cons, List.length_nil] at *
        omega
    · rw [if_neg hc]
      split
      · omega
      · have h1 := hr 999 (.node k i s l) (putF st [124]) h
        have h2 := putF_len st [124]
        have h4 := size_pos (.node k i s l)
        simp only [List.length_cons, List.length_nil] at *
        omega
theorem simpleW_len (hv : ∀ k, k < 100000 → (vn k).length ≤ 1000) (hr : RecLen rec) (T : Tr) (st : WS) (h : T.fine = true) : (simpleW vn rec T st).out.length ≤ st.out.length + (5000 * T.size - 2000) := by
  cases T with
  | node k n s l =>
    obtain ⟨hn, hl⟩ := fine_node h
    have hsz : (Tr.node k n s l).size = 1 + sizeL l := by simp only [Tr.size]
    rw [hsz, simpleW]
    have hdl := data_len s
    by_cases h1 : k = 1
    · subst h1
      have h2 := fine_one hn
      have h3 := hv n.toNat (by omega)
      have h4 := putF_len st (vn n.toNat)
      rw [if_pos rfl]
      omega
    rw [if_neg h1]
    by_cases h2 : k = 2
    · subst h2
      have h3 := (intL_len n (fine_two hn)).2
      have h4 := putF_len st (intL n)
      rw [if_pos rfl]
      omega
    rw [if_neg h2]
    by_cases h3 : k = 3
    · subst h3
      have h5 := name_size (fine_three hn)
      have h4 := putF_len st (atomF s.data.toList)
      have h6 := atomF_len s.data.toList
      rw [if_pos rfl]
      omega
    rw [if_neg h3]
    by_cases h4 : k = 4
    · subst h4
      have h5 := fine_four hn
      have h6 := putF_len st (qsL s.data.toList ++ [34])
      have h7 := qsL_len s.data.toList
      rw [if_pos rfl]
      simp only [List.length_append, List.length_cons, List.length_nil] at h6
      omega
    rw [if_neg h4]
    by_cases h6 : k = 6
    · rw [if_pos h6]
      have h7 := putF_len st [123]
      have h8 := partsW_len hr l (putF st [123]) hl
      have h9 := putF_len (partsW rec l (putF st [123])) [125]
      simp only [List.length_cons, List.length_nil] at *
      omega
    rw [if_neg h6]
    by_cases h5 : k = 5
    · rw [if_pos h5]
      subst h5
      obtain ⟨g1, g2, g3⟩ := fine_five hn
      by_cases hc : cellB (.node 5 n s l) = true
      · rw [if_pos hc]
        have hl2 : l.length = 2 := by
          unfold cellB at hc
          simp only [Bool.and_eq_true, decide_eq_true_eq] at hc
          exact hc.2
        match l, hl2 with
        | [a, b], _ =>
          simp only [fineL, Bool.and_eq_true, and_true] at hl
          have q1 := putF_len st [91]
          have q2 := hr 999 a (putF st [91]) hl.1
          have q3 := restW_len hr (sizeL [a, b] + 1) b (rec 999 a (putF st [91])) hl.2
          have q4 := putF_len (restW rec (sizeL [a, b] + 1) b (rec 999 a (putF st [91]))) [93]
          have q5 := size_pos a
          simp only [sizeL, List.getD_cons_zero, List.getD_cons_succ, List.length_cons, List.length_nil] at *
          omega
      · rw [if_neg hc]
        have g4 := name_size g1
        have q0 := nameF_len s.data.toList
        have q1 := putF_len st (nameF s.data.toList)
        have q2 := putF_len (putF st (nameF s.data.toList)) [40]
        have q3 := partsW_len hr l (putF (putF st (nameF s.data.toList)) [40]) hl
        have q4 := putF_len (partsW rec l (putF (putF st (nameF s.data.toList)) [40])) [41]
        simp only [List.length_cons, List.length_nil] at *
        omega
    · rw [if_neg h5]
      omega
theorem bodyW_len (hv : ∀ k, k < 100000 → (vn k).length ≤ 1000) (hr : RecLen rec) (T : Tr) (st : WS) (h : T.fine = true) : (bodyW plain vn rec T st).out.length ≤ st.out.length + (5000 * T.size - 2000) := by
  unfold bodyW
  split
  · exact simpleW_len hv hr T st h
  · rename_i h0
    obtain ⟨hp, ⟨n, s, x, rfl, e, e2⟩ | ⟨n, s, x, y, rfl, e, e2⟩⟩ := op_form h0
    · have hpre : (preV s).2.1 = 0 := by
        rcases pre_good s with g | g
        · rw [g] at e2; exact absurd e2 (by decide)
        · exact g.2.2.1
      rw [e, if_pos hpre]
      obtain ⟨hn, hl⟩ := fine_node h
      simp only [fineL, Bool.and_eq_true, and_true] at hl
      have h5 := name_size (fine_five hn).1
      have h6 := data_len s
      have q1 := putF_len st s.data.toList
      have q2 := hr (preV s).2.2 x ⟨(putF st s.data.toList).out, true⟩ hl
      have q3 := size_pos x
      simp only [Tr.size, sizeL, Tr.subs, Tr.str, List.getD_cons_zero] at *
      omega
    · have hinf : ¬ (infV s).2.1 = 0 := by
        rcases inf_good s with g | g
        · rw [g] at e2; exact absurd e2 (by decide)
        · omega
      rw [e, if_neg hinf]
      obtain ⟨hn, hl⟩ := fine_node h
      simp only [fineL, Bool.and_eq_true, and_true] at hl
      have h5 := name_size (fine_five hn).1
      have h6 := data_len s
      have q1 := hr (infV s).2.1 x st hl.1
      have q2 := putF_len (rec (infV s).2.1 x st) s.data.toList
      have q3 := hr (infV s).2.2 y (putF (rec (infV s).2.1 x st) s.data.toList) hl.2
      have q4 := size_pos x
      have q5 := size_pos y
      simp only [Tr.size, sizeL, Tr.subs, Tr.str, List.getD_cons_zero, List.getD_cons_succ] at *
      omega
theorem wrN_len (hv : ∀ k, k < 100000 → (vn k).length ≤ 1000) : ∀ n, RecLen (wrN plain vn n)
  | 0, m, t, st, h => by simp [wrN]
  | n + 1, m, t, st, h => by
    rw [wrN]
    have h4 := size_pos t
    split
    · have h1 := putF_len st [40]
      have h2 := bodyW_len (plain := plain) hv (wrN_len hv n) t (putF st [40]) h
      have h3 := putF_len (bodyW plain vn (wrN plain vn n) t (putF st [40])) [41]
      refine Nat.le_trans h3 (Nat.le_trans (Nat.add_le_add_right (Nat.le_trans h2 (Nat.add_le_add_right h1 _)) _) ?_)
      simp only [List.length_cons, List.length_nil]
      omega
    · have h2 := bodyW_len (plain := plain) hv (wrN_len hv n) t st h
      exact Nat.le_trans h2 (by omega)
end
end Go.Proofs.YthfciekhmbfmfaaGreatDoor
