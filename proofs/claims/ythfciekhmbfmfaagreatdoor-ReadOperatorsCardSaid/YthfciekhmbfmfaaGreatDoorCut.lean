/- The lexemes of a text: cut. -/
import Derived.Deep.Onto
import Derived.Test.YthfciekhmbfmfaaGreatDoorCutsy
namespace Go.Proofs.YthfciekhmbfmfaaGreatDoor
open Go.RowKit Go

def lexK (tot : Nat) (l : List UInt8) : Except Nat (List Lx) := lexN tot (l.length + 1) l
/-- The lexemes, where one begins here. -/
def lexC (tot : Nat) (l : List UInt8) : Except Nat (List Lx) :=
  match tokF l with
  | none => .error (tot - l.length)
  | some (t, m) =>
    match lexK tot (l.drop m) with
    | .error e => .error e
    | .ok xs => .ok (⟨t, tot - l.length, tot - l.length + m⟩ :: xs)
theorem lexK_skip (tot : Nat) (l : List UInt8) : lexK tot l = match skipL l with | (k, false) => .error (tot - k.length) | ([], true) => .ok [] | (c :: r, true) => lexC tot (c :: r) := by
  have hsk := skipL_le _ l (Nat.le_refl _)
  rw [lexK, lexN]
  generalize skipL l = D at *
  obtain ⟨k, b⟩ := D
  cases b with
  | false => rfl
  | true =>
    cases k with
    | nil => rfl
    | cons c r =>
      simp only [List.length_cons] at hsk
      unfold lexC
      cases ht : tokF (c :: r) with
      | none => simp only [ht]
      | some x =>
        obtain ⟨t, j⟩ := x
        have hj := tok_len ht
        have hd : ((c :: r).drop j).length = r.length + 1 - j := by simp
        simp only [ht]
        rw [lexK, lexN_eq tot l.length (((c :: r).drop j).length + 1) ((c :: r).drop j) (by omega) (by omega)]
        rfl
/-- The lexemes that were cut, and those that are left. -/
def appX (xs : List Lx) (e : Except Nat (List Lx)) : Except Nat (List Lx) := match e with | .error p => .error p | .ok ys => .ok (xs ++ ys)
theorem appX_nil (e : Except Nat (List Lx)) : appX [] e = e := by cases e <;> rfl
theorem appX_cons (xs : List Lx) (x : Lx) (e : Except Nat (List Lx)) : appX xs (match e with | .error p => .error p | .ok ys => .ok (x :: ys)) = appX (xs ++ [x]) e := by cases e <;> simp [appX]
/-- Where the loop stands: ahead of begin, ahead of a lexeme, at the end. -/
inductive Stand (s : ByteArray) (E : Except Nat (List Lx)) (k : Nat) (xs : List Lx) (v : Value) : Prop where
  | beg (h : v = stepV 98) (he : E = appX xs (lexK s.size (s.data.toList.drop k)))
  | lex (c : UInt8) (r : List UInt8) (f : FuncId) (hd : s.data.toList.drop k = c :: r) (hf : stepF c = some f) (h : v = stepV f) (he : E = appX xs (lexC s.size (c :: r)))
  | fin (h : v = .nilFunc) (he : E = .ok xs)
def isBeg : Value → Nat
  | .func (.func f) _ _ => if f = 98 then 1 else 0
  | _ => 0
theorem stepF_ne {c : UInt8} {f : FuncId} (h : stepF c = some f) : f ≠ 98 := by
  unfold stepF at h
  intro e
  subst e
  repeat' split at h
  all_goals first | (cases h; done) | (exact absurd (Option.some.inj h) (by decide))
/-- What cut hands back: the row of the pieces; or it throws. -/
def CutAQ (s : ByteArray) (w : World) (e : Ending) (w' : World) : Prop :=
  Below w.heap.size w w' ∧
  if s.size > 20000 then e = thrown 0 2
  else match lexL s.data.toList with
    | .error p => e = thrown (p : Int) 20
    | .ok xs => if xs.length > 8000 then e = thrown 0 2 else ∃ pv, e = .returned pv ∧ OwnR 78 3 pcV w.heap.size xs pv w'
theorem store_box {W : World} {R : Nat} {u : Value} {t : TypeId} (hb : Box W R #[u] t) (v : Value) (hv : v.oneCell' = true) : (store ⟨R, 0, none⟩ v).run Tryz.prog W = .ok () (W.setCell ⟨R, 0, none⟩ v) := by
  have k7 := hb.cell 0
  have k8 := hb.frozen 0
  simp only [List.getElem?_toArray, List.getElem?_cons_zero] at k7
  rw [run_store _ _ _ _ _ hv, k7, k8]
  rfl
theorem neq_nil (w : World) : (binOp .neq 130 .nilFunc .nilFunc).run Tryz.prog w = .ok (.bool false) w := by kernel_rfl
theorem neq_fn (f : FuncId) (w : World) : (binOp .neq 130 (.func (.func f) #[] #[]) .nilFunc).run Tryz.prog w = .ok (.bool true) w := by kernel_rfl
/-- The lexer is made, and its first step. -/
theorem cut_start (s : ByteArray) (w : World) (v : Value) : ∀ W0, W0 = (w.alloc (.cells #[.string s, .int .i64 0, .slice none 0 0] 129)).alloc (.cells #[v] 133) →
    Box W0 (w.heap.size + 1) #[v] 133 ∧ LxSt w w.heap.size s 0 [] (.slice none 0 0) W0 := by
  rintro W0 rfl
  have hb := World.alloc_heap_new w (.cells #[.string s, .int .i64 0, .slice none 0 0] 129)
  have hl1 := below_a1 (Nat.le_refl w.heap.size) (.cells #[.string s, .int .i64 0, .slice none 0 0] 129)
  have hsz : (w.alloc (.cells #[.string s, .int .i64 0, .slice none 0 0] 129)).heap.size = w.heap.size + 1 := by simp
  generalize w.alloc (.cells #[.string s, .int .i64 0, .slice none 0 0] 129) = W1 at *
  have hb1 : Box W1 w.heap.size #[.string s, .int .i64 0, .slice none 0 0] 129 := hb
  have hn := World.alloc_heap_new W1 (.cells #[v] 133)
  rw [hsz] at hn
  have hL : LxSt w w.heap.size s 0 [] (.slice none 0 0) W1 := ⟨hb1, OwnR.nil _ _, hl1, Nat.le_refl _⟩
  exact ⟨hn, hL.up (below_a1 (Nat.le_refl _) _)⟩
theorem isBeg_fn {f : FuncId} (h : f ≠ 98) : isBeg (.func (.func f) #[] #[]) = 0 := by unfold isBeg; simp only; rw [if_neg h]
theorem isBeg_one : isBeg (.func (.func 98) #[] #[]) = 1 := rfl
theorem isBeg_nil : isBeg .nilFunc = 0 := rfl
/-- The loop's variable is written, and copied for the next round. -/
theorem cut_tail {w wr W2 : World} {B Nb k' : Nat} {s : ByteArray} {xs' : List Lx} {pv pv' v : Value} (hb : Box wr Nb #[v] 133) (h2 : LxSt w B s k' xs' pv' W2) (hT : LxTo B pv pv' wr W2) (hn : Nb ≠ B) (hno : some Nb ≠ pv.ownBlock) (hw : w.heap.size ≤ Nb) (v' : Value) (hv : v'.oneCell' = true) :
    (store ⟨Nb, 0, none⟩ v').run Tryz.prog W2 = .ok () (W2.setCell ⟨Nb, 0, none⟩ v') ∧ (W2.setCell ⟨Nb, 0, none⟩ v').cell? ⟨Nb, 0, none⟩ = some v' ∧
    (store ⟨W2.heap.size, 0, none⟩ v').run Tryz.prog ((W2.setCell ⟨Nb, 0, none⟩ v').alloc (.cells #[.nilFunc] 133)) = .ok () (((W2.setCell ⟨Nb, 0, none⟩ v').alloc (.cells #[.nilFunc] 133)).setCell ⟨W2.heap.size, 0, none⟩ v') ∧
    LxSt w B s k' xs' pv' ((W2.setCell ⟨Nb, 0, none⟩ v').alloc (.cells #[v'] 133)) ∧ Box ((W2.setCell ⟨Nb, 0, none⟩ v').alloc (.cells #[v'] 133)) W2.heap.size #[v'] 133 ∧ W2.heap.size ≠ B ∧ some W2.heap.size ≠ pv'.ownBlock ∧ w.heap.size ≤ W2.heap.size := by
  have hb2 := hT.box hb hn hno
  have hno2 : some Nb ≠ pv'.ownBlock := fun e => by
    rcases hT.own _ e.symm with q | q
    · exact hno q.symm
    · have := hb.lt; omega
  have h3 := h2.far hn hno2 hw v'
  have hsz : (W2.setCell ⟨Nb, 0, none⟩ v').heap.size = W2.heap.size := by simp
  have hn3 := (hb2.set 0 v').cell 0
  have hal := fun u => (show Box ((W2.setCell ⟨Nb, 0, none⟩ v').alloc (.cells #[u] 133)) (W2.setCell ⟨Nb, 0, none⟩ v').heap.size #[u] 133 from World.alloc_heap_new _ _)
  rw [hsz] at hal
  refine ⟨store_box hb2 v' hv, by simpa using hn3, store_box (hal .nilFunc) v' hv, h3.up (below_a1 (Nat.le_refl _) _), hal v', fun e => by have := h2.box.lt; omega, fun e => by have := (h2.row.own.lt _ e.symm).2; omega, h2.below.size⟩
set_option maxRecDepth 100000 in
set_option maxHeartbeats 8000000 in
theorem cut_any (s : ByteArray) (w : World) (hs : s.size ≤ 1000000) (mm : Int) (hmx : w.cell? ⟨1, 0, none⟩ = some (.int .i64 mm)) :
    Calls Tryz.prog 58 #[.string s] w (CutAQ s w) := by
  by_cases h20 : s.size > 20000
  · have hq : (s.size : Int) > 20000 := by omega
    have HT := Lib.hid (fun w => throw_any 0 2 w)
    have HQ : Hid (CutAQ s w = fun e w' => Below w.heap.size w w' ∧ e = thrown 0 2) := by unfold CutAQ; rw [Hid]; simp only [if_pos h20]
    clear h20
    go_enter Tryz.func58, Tryz.ntmps58
    go_wp2_with fail
    refine (HT.out _).mono ?_
    rintro e w1 ⟨rfl, rfl⟩
    refine And.intro rfl ?_
    rw [HQ.out]
    exact ⟨Below.refl _ _, rfl⟩
  · have hq : ¬ (s.size : Int) > 20000 := by omega
    have hs2 : s.size ≤ 20000 := by omega
    have HT := Lib.hid (fun w => throw_any 0 2 w)
    have HQ : Hid (CutAQ s w = fun e w' => Below w.heap.size w w' ∧ match lexL s.data.toList with | .error p => e = thrown (p : Int) 20 | .ok xs => if xs.length > 8000 then e = thrown 0 2 else ∃ pv, e = .returned pv ∧ OwnR 78 3 pcV w.heap.size xs pv w') := by unfold CutAQ; rw [Hid]; simp only [if_neg h20]
    clear h20
    have hst0 := store_box (cut_start s w .nilFunc _ rfl).1 (stepV 98) rfl
    unfold stepV at hst0
    have HL0 := Lib.hid (cut_start s w (stepV 98) _ rfl)
    have q1 := neq_nil
    have q2 := neq_fn
    go_enter Tryz.func58, Tryz.ntmps58
    go_wp2_with fail
    generalize hW0 : (w.alloc (.cells #[.string s, .int .i64 0, .slice none 0 0] 129)).alloc (.cells #[.func (.func 98) #[] #[]] 133) = W0 at *
    have HL0 : Hid (Box W0 (w.heap.size + 1) #[stepV 98] 133 ∧ LxSt w w.heap.size s 0 [] (.slice none 0 0) W0) := by rw [← hW0]; exact HL0
    clear hst0 hW0
    go_loopw [4] (fun pp wr => ∃ (Nb k : Nat) (v pv : Value) (xs : List Lx), pp = .pointer (some ⟨Nb, 0, none⟩) ∧ Box wr Nb #[v] 133 ∧ LxSt w w.heap.size s k xs pv wr ∧ Nb ≠ w.heap.size ∧ some Nb ≠ pv.ownBlock ∧ w.heap.size ≤ Nb ∧ k ≤ s.size ∧ xs.length ≤ k ∧ Stand s (lexL s.data.toList) k xs v) (fun pp wr => 2 * (s.size - (intOf ((wr.cell? ⟨w.heap.size, 1, none⟩).getD (.int .i64 0))).toNat) + isBeg ((match pp with | .pointer (some a) => wr.cell? a | _ => none).getD .nilFunc))
    case atStart => exact ⟨w.heap.size + 1, 0, _, _, [], rfl, HL0.out.1, HL0.out.2, by omega, by simp [Value.ownBlock], by omega, Nat.zero_le _, Nat.le_refl _, .beg rfl (by rw [appX_nil, List.drop_zero]; rfl)⟩
    case round =>
      obtain ⟨Nb, k, v, pv, xs, rfl, hNb, hL, hne, hno, hNw, hk, hxk, hst⟩ := hrel
      have n0 := hNb.cell 0
      have n1 := hNb.frozen 0
      have n2 := hNb.lt
      have b1 := hL.box.cell 1
      have b2 := hL.box.cell 2
      have l0 := hL.box.lt
      simp only [List.getElem?_toArray, List.getElem?_cons_succ, List.getElem?_cons_zero] at n0 b1 b2
      have HR := Lib.hid (And.intro hNb (And.intro hL (And.intro hno (And.intro hxk (And.intro hne hNw)))))
      have hk8 : xs.length ≤ 100000 := by omega
      clear hNb hL hno hxk
      cases hst with
      | beg hv he =>
        subst hv
        have hbg := begin_any w w.heap.size s k xs pv wr HR.out.2.1 hk hs mm hmx
        rw [lexK_skip] at he
        obtain ⟨m, hm⟩ := skipL_suffix _ (s.data.toList.drop k) (Nat.le_refl _)
        rw [List.drop_drop] at hm
        generalize skipL (s.data.toList.drop k) = D at *
        obtain ⟨l, b⟩ := D
        have HB := Lib.hid (And.intro hbg (And.intro hm he))
        have hent : ∀ args w, (callFunc 98 args).run Tryz.prog w = .ok (.enter 98 args) w := enters_of Tryz.func98 (by kernel_rfl) rfl
        unfold stepV at n0
        clear hbg hm he
        go_wp2_with fail
        refine (HB.out.1).mono ?_
        rintro e W2 hQ2
        cases b with
        | false =>
          obtain ⟨rfl, hbel⟩ := hQ2
          refine And.intro rfl ?_
          rw [HQ.out]
          refine ⟨hbel, ?_⟩
          rw [HB.out.2.2]
          rfl
        | true =>
          rcases l with _ | ⟨c, r⟩
          · obtain ⟨rfl, hL2, hT2⟩ := hQ2
            have ht := cut_tail HR.out.1 hL2 hT2 HR.out.2.2.2.2.1 HR.out.2.2.1 HR.out.2.2.2.2.2 .nilFunc rfl
            have HX : Hid (Stand s (lexL s.data.toList) s.size xs .nilFunc) := .fin rfl (by rw [HB.out.2.2]; show Except.ok (xs ++ []) = _; rw [List.append_nil])
            obtain ⟨t1, t2, t3, t4, t5, t6, t7, t8⟩ := ht
            skip
            have HTL := Lib.hid (And.intro t5 (And.intro t4 (And.intro t6 (And.intro t7 t8))))
            clear t4 t5 t6 t7 t8 hL2 hT2
            go_wp2_with fail
            have hxk := HR.out.2.2.2.1
            have m1 := HTL.out.2.1.box.cell 1
            have m2 := HTL.out.1.cell 0
            simp only [List.getElem?_toArray, List.getElem?_cons_succ, List.getElem?_cons_zero] at m1 m2
            refine ⟨⟨W2.heap.size, s.size, _, _, xs, rfl, HTL.out.1, HTL.out.2.1, HTL.out.2.2.1, HTL.out.2.2.2.1, HTL.out.2.2.2.2, by omega, by omega, HX.out⟩, ?_⟩
            simp only [m1, m2, b1, n0, Option.getD_some, intOf, Int.toNat_natCast, isBeg_one, isBeg_nil]
            skip
            omega
          · cases hf : stepF c with
            | none =>
              have hQ3 : e = thrown ((s.size - (c :: r).length : Nat) : Int) 20 ∧ Below w.heap.size w W2 := by
                have h := hQ2
                unfold BegQ at h
                simp only [hf] at h
                exact h
              obtain ⟨rfl, hbel⟩ := hQ3
              refine And.intro rfl ?_
              rw [HQ.out]
              refine ⟨hbel, ?_⟩
              rw [HB.out.2.2]
              show (match appX xs (lexC s.size (c :: r)) with | .error p => _ | .ok ys => _)
              rw [show lexC s.size (c :: r) = .error (s.size - (c :: r).length) by unfold lexC; rw [tok_none hf]]
              rfl
            | some f =>
              have hQ3 : e = .returned (.agg #[.func (.func f) #[] #[]]) ∧ LxSt w w.heap.size s (s.size - (c :: r).length) xs pv W2 ∧ LxTo w.heap.size pv pv wr W2 := by
                have h := hQ2
                unfold BegQ at h
                simp only [hf] at h
                exact h
              obtain ⟨rfl, hL2, hT2⟩ := hQ3
              have hm2 := HB.out.2.1
              have hlen := congrArg List.length hm2
              have hdl : (s.data.toList.drop (k + m)).length = s.size - (k + m) := by simp
              rw [hdl] at hlen
              simp only [List.length_cons] at hlen
              have hk2 : s.size - (c :: r).length = k + m := by simp only [List.length_cons]; omega
              rw [hk2] at hL2
              have hkm : k + m < s.size := by omega
              have ht := cut_tail HR.out.1 hL2 hT2 HR.out.2.2.2.2.1 HR.out.2.2.1 HR.out.2.2.2.2.2 (stepV f) rfl
              have HX : Hid (Stand s (lexL s.data.toList) (k + m) xs (stepV f)) := .lex c r f hm2.symm hf rfl HB.out.2.2
              have hfb := stepF_ne hf
              clear hm2 hlen hdl hk2 hf hQ2
              obtain ⟨t1, t2, t3, t4, t5, t6, t7, t8⟩ := ht
              unfold stepV at t1 t2 t3 t4 t5
              have HTL := Lib.hid (And.intro t5 (And.intro t4 (And.intro t6 (And.intro t7 t8))))
              clear t4 t5 t6 t7 t8 hL2 hT2
              go_wp2_with fail
              have hxk := HR.out.2.2.2.1
              have m1 := HTL.out.2.1.box.cell 1
              have m2 := HTL.out.1.cell 0
              simp only [List.getElem?_toArray, List.getElem?_cons_succ, List.getElem?_cons_zero] at m1 m2
              refine ⟨⟨W2.heap.size, k + m, _, _, xs, rfl, HTL.out.1, HTL.out.2.1, HTL.out.2.2.1, HTL.out.2.2.2.1, HTL.out.2.2.2.2, by omega, by omega, HX.out⟩, ?_⟩
              simp only [m1, m2, b1, n0, Option.getD_some, intOf, Int.toNat_natCast, isBeg_fn hfb, isBeg_one]
              skip
              omega
      | lex c r f hd hf hv he =>
        subst hv
        have hlen := congrArg List.length hd
        have hdl : (s.data.toList.drop k).length = s.size - k := by simp
        rw [hdl] at hlen
        simp only [List.length_cons] at hlen
        have hks : k < s.size := by omega
        have hsp := step_any w w.heap.size s k xs pv wr c r f HR.out.2.1 hk8 hks hs hd hf
        have hent := step_enters hf
        have hfb := stepF_ne hf
        have HD := Lib.hid (And.intro hd he)
        cases ht : tokF (c :: r) with
        | none =>
          rw [ht] at hsp
          have HB := Lib.hid hsp
          have HE : Hid (lexL s.data.toList = .error k) := by
            rw [Hid, he, show lexC s.size (c :: r) = .error (s.size - (c :: r).length) by unfold lexC; rw [ht]]
            show Except.error (s.size - (c :: r).length) = _
            congr 1
            simp only [List.length_cons]
            omega
          unfold stepV at n0
          clear hsp hd hf he hlen hdl ht
          go_wp2_with fail
          refine (HB.out).mono ?_
          rintro e W2 ⟨rfl, hbel⟩
          refine And.intro rfl ?_
          rw [HQ.out]
          refine ⟨hbel, ?_⟩
          rw [HE.out]
          rfl
        | some x =>
          obtain ⟨t, j⟩ := x
          rw [ht] at hsp
          have hj := tok_len ht
          have HB := Lib.hid hsp
          have hkj : k + j ≤ s.size := by omega
          have hE : lexL s.data.toList = appX (xs ++ [⟨t, k, k + j⟩]) (lexK s.size (s.data.toList.drop (k + j))) := by
            rw [he, ← appX_cons, ← List.drop_drop, hd]
            unfold lexC
            rw [ht]
            simp only [List.length_cons]
            rw [show s.size - (r.length + 1) = k by omega]
          have HE := Lib.hid hE
          have HJ := Lib.hid hj
          unfold stepV at n0
          clear hsp hd hf he hlen hdl ht hE hj
          go_wp2_with fail
          refine (HB.out).mono ?_
          rintro e W2 ⟨he, pv', hL2, hT2⟩
          have he : e = .returned (.agg #[.func (.func 98) #[] #[]]) := he
          subst he
          have ht := cut_tail HR.out.1 hL2 hT2 HR.out.2.2.2.2.1 HR.out.2.2.1 HR.out.2.2.2.2.2 (stepV 98) rfl
          have HX : Hid (Stand s (lexL s.data.toList) (k + j) (xs ++ [⟨t, k, k + j⟩]) (stepV 98)) := .beg rfl HE.out
          obtain ⟨t1, t2, t3, t4, t5, t6, t7, t8⟩ := ht
          unfold stepV at t1 t2 t3 t4 t5
          have HTL := Lib.hid (And.intro t5 (And.intro t4 (And.intro t6 (And.intro t7 t8))))
          clear t4 t5 t6 t7 t8 hL2 hT2
          go_wp2_with fail
          have hxk := HR.out.2.2.2.1
          have m1 := HTL.out.2.1.box.cell 1
          have m2 := HTL.out.1.cell 0
          simp only [List.getElem?_toArray, List.getElem?_cons_succ, List.getElem?_cons_zero] at m1 m2
          refine ⟨⟨W2.heap.size, k + j, _, _, xs ++ [⟨t, k, k + j⟩], rfl, HTL.out.1, HTL.out.2.1, HTL.out.2.2.1, HTL.out.2.2.2.1, HTL.out.2.2.2.2, by omega, by (have hj := HJ.out; simp only [List.length_append, List.length_cons, List.length_nil]; omega), HX.out⟩, ?_⟩
          simp only [m1, m2, b1, n0, Option.getD_some, intOf, Int.toNat_natCast, isBeg_fn hfb, isBeg_one]
          have hj := HJ.out
          omega
      | fin hv he =>
        subst hv
        have hbel := HR.out.2.1.below
        have hpe : ∃ pa pc, pv = .slice pa xs.length pc := by
          rcases HR.out.2.1.row.own.2 with ⟨h1, h2⟩ | ⟨g, cap, cur, h1, _⟩
          · exact ⟨none, 0, by rw [h1, h2]⟩
          · exact ⟨_, _, h1⟩
        obtain ⟨pa, pc, rfl⟩ := hpe
        have HE := Lib.hid (And.intro he hbel)
        clear he hbel
        by_cases h8 : xs.length > 8000
        · have h8' : (xs.length : Int) > 8000 := by omega
          have H8 := Lib.hid h8
          clear h8
          go_wp2_with fail
          refine (HT.out _).mono ?_
          rintro e w1 ⟨rfl, rfl⟩
          refine And.intro rfl ?_
          rw [HQ.out, HE.out.1]
          refine ⟨HE.out.2, ?_⟩
          show (if _ then _ else _)
          rw [if_pos H8.out]
          rfl
        · have h8' : ¬ (xs.length : Int) > 8000 := by omega
          have H8 := Lib.hid h8
          clear h8
          go_wp2_with fail
          go_ret
          rw [HQ.out, HE.out.1]
          refine ⟨HE.out.2, ?_⟩
          show (if _ then _ else _)
          rw [if_neg H8.out]
          exact ⟨_, rfl, ⟨HR.out.2.1.row.own.mono (by omega)⟩⟩
end Go.Proofs.YthfciekhmbfmfaaGreatDoor
