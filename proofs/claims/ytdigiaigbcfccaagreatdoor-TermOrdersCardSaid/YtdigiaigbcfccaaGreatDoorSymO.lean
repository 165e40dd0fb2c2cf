/- Symbols, and their order: by name, then by arity. -/
import Derived.Sort.Grow
import Derived.Sort.Statements
import Derived.Test.YtdigiaigbcfccaaGreatDoorOrdm
import Derived.Test.YtdigiaigbcfccaaGreatDoorMono
import Derived.DeepKeys4
import Derived.Maps.OwnSet
import Derived.Sort.MapsRangeIn
import Derived.Test.YtdigiaigbcfccaaGreatDoorMaps
namespace Go.Proofs.YtdigiaigbcfccaaGreatDoor
open Go.RowKit Go

attribute [local go_sem] Oper.semAt_some monoUpon Yld.says uponP

theorem binOp_str_gtr (t : TypeId) (a b : ByteArray) : binOp .gtr t (.string a) (.string b) = pure (.bool !(Op.bytesLess a.toList b.toList || a.toList == b.toList)) := by simp [binOp, Op.stringOp]
attribute [local go_sem] binOp_str_gtr
/-- A symbol: its name, its arity. -/
abbrev Sym : Type := ByteArray × Int
def symE (x : Sym) : List Value := [.string x.1, .int .i64 x.2]
def symO (x y : Sym) : Int := orL [Lib.compareBytes x.1.data.toList y.1.data.toList, Lib.compareInt x.2 y.2]
theorem symO_eq (x y : Sym) : symO x y = if Lib.compareBytes x.1.data.toList y.1.data.toList = 0 then Lib.compareInt x.2 y.2 else Lib.compareBytes x.1.data.toList y.1.data.toList := by
  simp only [symO, orL]
  congr 1
  split <;> simp_all
theorem symO_rng (x y : Sym) : Rng (symO x y) := by rw [symO_eq]; exact (cb_rng _ _).lex (ci_rng _ _)
theorem symO_anti (x y : Sym) : symO y x = - symO x y := by rw [symO_eq, symO_eq]; exact lex_anti (cb_anti _ _) (ci_anti _ _)
theorem symO_zero (x y : Sym) : symO x y = 0 ↔ x = y := by
  rw [symO_eq, lex_zero (cb_zero _ _) (ci_zero _ _), str_eq]
  constructor
  · rintro ⟨h1, h2⟩; exact Prod.ext h1 h2
  · rintro rfl; exact ⟨rfl, rfl⟩
theorem symO_trans (x y z : Sym) : symO x y ≤ 0 → symO y z ≤ 0 → symO x z ≤ 0 := by
  rw [symO_eq, symO_eq, symO_eq]
  have HB : ∀ a b d : List UInt8, (Lib.compareBytes a b = 0 → Lib.compareBytes a d = Lib.compareBytes b d) ∧ (Lib.compareBytes b d = 0 → Lib.compareBytes a d = Lib.compareBytes a b) ∧ (Lib.compareBytes a d = 0 → Lib.compareBytes b d = - Lib.compareBytes a b) := fun a b d =>
    ⟨fun h => by rw [(cb_zero _ _).1 h], fun h => by rw [(cb_zero _ _).1 h], fun h => by rw [← (cb_zero _ _).1 h]; exact cb_anti _ _⟩
  refine lex_trans (cb_trans _ _ _) (HB _ _ _).1 (HB _ _ _).2.1 (HB _ _ _).2.2 fun _ _ => ?_
  exact ci_trans _ _ _
/-- x stands ahead of y. -/
def symLt (x y : Sym) : Bool := decide (symO x y < 0)
theorem symLt_swo : Sort.SWO symLt where
  irrefl x := by simp [symLt, (symO_zero x x).2 rfl]
  trans x y z h1 h2 := by
    simp only [symLt, decide_eq_true_eq] at *
    have h3 := symO_trans x y z (by omega) (by omega)
    by_cases e : symO x z = 0
    · have := (symO_zero x z).1 e
      subst this
      have := symO_anti x y
      omega
    · omega
  ntrans x y z h1 h2 := by
    simp only [symLt, decide_eq_false_iff_not] at *
    have a1 := symO_anti x y
    have a2 := symO_anti y z
    have a3 := symO_anti x z
    have := symO_trans z y x (by omega) (by omega)
    omega
theorem bytesLess_cmp : ∀ a b : List UInt8, Op.bytesLess a b = decide (Lib.compareBytes a b < 0)
  | [], [] => rfl
  | [], _ :: _ => rfl
  | _ :: _, [] => rfl
  | a :: u, b :: v => by
    have := bytesLess_cmp u v
    simp only [Op.bytesLess, Lib.compareBytes, this]
    by_cases h1 : a < b
    · simp [h1]
    · by_cases h2 : b < a
      · have h3 : a ≠ b := fun e => h1 (e ▸ h2)
        simp [h1, h2, h3]
      · have h3 : a = b := by
          rw [UInt8.lt_iff_toNat_lt] at h1 h2
          exact UInt8.toNat_inj.1 (by omega)
        simp [h3]

set_option maxHeartbeats 400000 in
theorem nanStr_any (x : ByteArray) (w : World) : Calls Tryz.prog 93 #[.string x] w fun e w' => e = .returned (.bool false) ∧ w' = w := by
  have h : (x.toList != x.toList) = false := by simp
  go_enter Tryz.func93, Tryz.ntmps93
  go_wp2_with fail
  go_ret
  exact ⟨by simp, rfl⟩
set_option maxRecDepth 100000 in
set_option maxHeartbeats 1000000 in
theorem cmpStr_any (x y : ByteArray) (w : World) : Calls Tryz.prog 75 #[.string x, .string y] w fun e w' => e = .returned (.int .i64 (Lib.compareBytes x.data.toList y.data.toList)) ∧ w' = w := by
  have e1 := bytesLess_cmp x.toList y.toList
  have e2 := cb_zero x.toList y.toList
  have hr := cb_rng x.data.toList y.data.toList
  have hx := bytes_toList x
  have hy := bytes_toList y
  rw [hx, hy] at e1 e2
  rw [← hx, ← hy] at e1 e2
  have HR : Hid (Rng (Lib.compareBytes x.data.toList y.data.toList) ∧ x.toList = x.data.toList ∧ y.toList = y.data.toList) := ⟨hr, hx, hy⟩
  clear hr hx hy
  have HE := Lib.hid (And.intro e1 e2)
  clear e1 e2
  go_enter Tryz.func75, Tryz.ntmps75
  go_wp2_with fail
  refine (nanStr_any x w).mono ?_
  rintro e w' ⟨rfl, rfl⟩
  go_wp2_with fail
  refine (nanStr_any y w').mono ?_
  rintro e w' ⟨rfl, rfl⟩
  by_cases h1 : Lib.compareBytes x.data.toList y.data.toList < 0
  · have f1 : Op.bytesLess x.toList y.toList = true := by rw [HE.out.1, HR.out.2.1, HR.out.2.2]; simp [h1]
    have f2 : Hid (Lib.compareBytes x.data.toList y.data.toList = -1) := by have := HR.out.1; unfold Rng at this; rw [Hid]; omega
    clear h1
    go_wp2_with fail
    go_ret
    exact ⟨by rw [f2.out]; rfl, rfl⟩
  · have f1 : Op.bytesLess x.toList y.toList = false := by rw [HE.out.1, HR.out.2.1, HR.out.2.2]; simp [h1]
    by_cases h2 : Lib.compareBytes x.data.toList y.data.toList = 0
    · have f2 : (x.toList == y.toList) = true := by
        have := HE.out.2
        rw [HR.out.2.1, HR.out.2.2] at this ⊢
        simpa using this.1 h2
      have f3 := Lib.hid h2
      clear h1 h2
      go_wp2_with fail
      go_ret
      exact ⟨by rw [f3.out]; rfl, rfl⟩
    · have f2 : (x.toList == y.toList) = false := by
        have := HE.out.2
        rw [HR.out.2.1, HR.out.2.2] at this ⊢
        rw [beq_eq_false_iff_ne]
        exact fun e => h2 (this.2 e)
      have f3 : Hid (Lib.compareBytes x.data.toList y.data.toList = 1) := by have := HR.out.1; unfold Rng at this; rw [Hid]; omega
      clear h1 h2
      go_wp2_with fail
      go_ret
      exact ⟨by rw [f3.out]; rfl, rfl⟩

set_option maxRecDepth 100000 in
set_option maxHeartbeats 2000000 in
theorem orderSym_any (x y : Sym) (w : World) : Calls Tryz.prog 44 #[.agg (symE x).toArray, .agg (symE y).toArray] w fun e w' => e = .returned (.int .i64 (symO x y)) ∧ ∃ o1 o2 o3, w' = (((w.alloc o1).alloc o2).alloc o3).drew := by
  obtain ⟨xs, xn⟩ := x
  obtain ⟨ys, yn⟩ := y
  change Calls Tryz.prog 44 #[.agg #[.string xs, .int .i64 xn], .agg #[.string ys, .int .i64 yn]] w _
  obtain ⟨W, hW⟩ : ∃ W, (w.alloc (.cells #[.string xs, .int .i64 xn] 42)).alloc (.cells #[.string ys, .int .i64 yn] 42) = W := ⟨_, rfl⟩
  have bx : Box W w.heap.size #[.string xs, .int .i64 xn] 42 := by rw [← hW]; exact (Box.at rfl).alloc _
  have by' : Box W (w.heap.size + 1) #[.string ys, .int .i64 yn] 42 := by rw [← hW]; exact Box.at (by simp)
  have HW := Lib.hid hW
  refine (callsIn_wide (n := 9)).1 ?_
  generalize hF : Fence.wide = F
  have hd : F.depth = none := by subst hF; rfl
  have hf : ∀ f, F.fn f := fun f => by subst hF; trivial
  have hro : F.round = none := by subst hF; rfl
  refine callsIn_of_wp Tryz.func44 rfl (hf _) ?_ hro
  simp only [Tryz.ntmps44, List.size_toArray, List.length_cons, List.length_nil, Nat.reduceAdd, Nat.reduceSub, Array.replicate_succ, Array.replicate_zero, List.push_toArray, List.append_toArray, List.nil_append, List.cons_append]
  gi_wp2_with fail
  clear hW
  have q0 := bx.cell 0
  have q1 := bx.cell 1
  have r0 := by'.cell 0
  have r1 := by'.cell 1
  have l0 := bx.lt
  have l1 := by'.lt
  simp only [List.getElem?_toArray, List.getElem?_cons_succ, List.getElem?_cons_zero] at q0 q1 r0 r1
  refine wpIn_region_phase 10 0 [.det (.pointer (some ⟨w.heap.size, 0, none⟩)), .det (.string xs), .det (.pointer (some ⟨w.heap.size + 1, 0, none⟩)), .det (.string ys), .det (.int .i64 (Lib.compareBytes xs.data.toList ys.data.toList)), .det (.pointer (some ⟨w.heap.size, 1, none⟩)), .det (.int .i64 xn), .det (.pointer (some ⟨w.heap.size + 1, 1, none⟩)), .det (.int .i64 yn), .det (.int .i64 (Lib.compareInt xn yn))] (fun a b => a = b) (fun _ V => V = W.drew) hf hd (fun k f args w R h => callsIn_of_calls hF h) (by kernel_rfl) (by kernel_rfl) (by decide) (by kernel_rfl) ?_ rfl ?_
  · intro y hy
    simp only [List.mem_cons, List.not_mem_nil, or_false] at hy
    rcases hy with rfl | rfl | rfl | rfl | rfl | rfl | rfl | rfl | rfl | rfl <;> first | trivial
  simp only [List.take_succ_cons, List.take_zero, List.drop_succ_cons, List.drop_zero]
  refine wpP_step (fun K hK => ?_)
  go_simp
  apply And.intro
  · rw [yieldsP, if_pos rfl]
    intro w' hC _
    obtain rfl : w' = W.drew := hC
    go_simp
    first | exact trivial | exact rfl | exact ⟨rfl, rfl⟩ | exact ⟨rfl, rfl, rfl⟩ | done
  refine nextM_det (hK _ _ ?_)
  clear hK K
  refine wpP_step (fun K hK => ?_)
  go_simp
  apply And.intro
  · rw [yieldsP, if_neg (by decide)]
    intro b w' hC _
    obtain rfl : w' = W.drew := hC
    go_simp
    first | exact trivial | exact rfl | exact ⟨rfl, rfl⟩ | exact ⟨rfl, rfl, rfl⟩ | done
  refine nextM_det (hK _ _ ?_)
  clear hK K
  refine wpP_step (fun K hK => ?_)
  go_simp
  apply And.intro
  · rw [yieldsP, if_neg (by decide)]
    intro b w' hC _
    obtain rfl : w' = W.drew := hC
    go_simp
    first | exact trivial | exact rfl | exact ⟨rfl, rfl⟩ | exact ⟨rfl, rfl, rfl⟩ | done
  refine nextM_det (hK _ _ ?_)
  clear hK K
  refine wpP_step (fun K hK => ?_)
  go_simp
  apply And.intro
  · rw [yieldsP, if_neg (by decide)]
    intro b w' hC _
    obtain rfl : w' = W.drew := hC
    go_simp
    first | exact trivial | exact rfl | exact ⟨rfl, rfl⟩ | exact ⟨rfl, rfl, rfl⟩ | done
  refine nextM_det (hK _ _ ?_)
  clear hK K
  refine wpP_step (fun K hK => ?_)
  go_simp
  apply And.intro
  · rw [yieldsP, if_neg (by decide)]
    intro b w' hC _
    obtain rfl : w' = W.drew := hC
    go_simp
    refine (cmpStr_any xs ys _).mono ?_
    rintro e w1 ⟨rfl, rfl⟩
    first | exact ⟨_, rfl, rfl, rfl, rfl⟩ | exact ⟨_, rfl, rfl, rfl⟩ | exact ⟨_, rfl, rfl⟩ | exact ⟨_, rfl⟩
  refine nextM_det (hK _ _ ?_)
  clear hK K
  refine wpP_step (fun K hK => ?_)
  go_simp
  apply And.intro
  · rw [yieldsP, if_neg (by decide)]
    intro b w' hC _
    obtain rfl : w' = W.drew := hC
    go_simp
    first | exact trivial | exact rfl | exact ⟨rfl, rfl⟩ | exact ⟨rfl, rfl, rfl⟩ | done
  refine nextM_det (hK _ _ ?_)
  clear hK K
  refine wpP_step (fun K hK => ?_)
  go_simp
  apply And.intro
  · rw [yieldsP, if_neg (by decide)]
    intro b w' hC _
    obtain rfl : w' = W.drew := hC
    go_simp
    first | exact trivial | exact rfl | exact ⟨rfl, rfl⟩ | exact ⟨rfl, rfl, rfl⟩ | done
  refine nextM_det (hK _ _ ?_)
  clear hK K
  refine wpP_step (fun K hK => ?_)
  go_simp
  apply And.intro
  · rw [yieldsP, if_neg (by decide)]
    intro b w' hC _
    obtain rfl : w' = W.drew := hC
    go_simp
    first | exact trivial | exact rfl | exact ⟨rfl, rfl⟩ | exact ⟨rfl, rfl, rfl⟩ | done
  refine nextM_det (hK _ _ ?_)
  clear hK K
  refine wpP_step (fun K hK => ?_)
  go_simp
  apply And.intro
  · rw [yieldsP, if_neg (by decide)]
    intro b w' hC _
    obtain rfl : w' = W.drew := hC
    go_simp
    first | exact trivial | exact rfl | exact ⟨rfl, rfl⟩ | exact ⟨rfl, rfl, rfl⟩ | done
  refine nextM_det (hK _ _ ?_)
  clear hK K
  refine wpP_step (fun K hK => ?_)
  go_simp
  apply And.intro
  · rw [yieldsP, if_neg (by decide)]
    intro b w' hC _
    obtain rfl : w' = W.drew := hC
    go_simp
    refine (Tryz.cmp_Compare_int xn yn _).mono ?_
    rintro e w1 ⟨rfl, rfl⟩
    first | exact ⟨_, rfl, rfl, rfl, rfl⟩ | exact ⟨_, rfl, rfl, rfl⟩ | exact ⟨_, rfl, rfl⟩ | exact ⟨_, rfl⟩
  refine nextM_det (hK _ _ ?_)
  clear hK K
  refine wpP_nil ?_
  rintro w2 rfl _
  clear q0 q1 r0 r1 l0 l1 bx by'
  gi_wp2_with fail
  have hor := or_any [Lib.compareBytes xs.data.toList ys.data.toList, Lib.compareInt xn yn] W.heap.size 0 2 (W.drew.alloc (.cells #[.int .i64 (Lib.compareBytes xs.data.toList ys.data.toList), .int .i64 (Lib.compareInt xn yn)] 3)) (by simp; unfold maxLen; omega) (fun k hk => by
    have hb : Box (W.drew.alloc (.cells #[.int .i64 (Lib.compareBytes xs.data.toList ys.data.toList), .int .i64 (Lib.compareInt xn yn)] 3)) W.heap.size #[.int .i64 (Lib.compareBytes xs.data.toList ys.data.toList), .int .i64 (Lib.compareInt xn yn)] 3 := Box.at rfl
    match k, hk with
    | 0, _ => exact hb.cell 0
    | 1, _ => exact hb.cell 1)
  refine CallsIn.mono (callsIn_of_calls hF hor) ?_
  rintro e w1 ⟨rfl, rfl⟩
  gi_wp2_with fail
  go_ret
  refine ⟨rfl, .cells #[.string xs, .int .i64 xn] 42, .cells #[.string ys, .int .i64 yn] 42, .cells #[.int .i64 (Lib.compareBytes xs.data.toList ys.data.toList), .int .i64 (Lib.compareInt xn yn)] 3, ?_⟩
  rw [HW.out]
end Go.Proofs.YtdigiaigbcfccaaGreatDoor

/- Sets of symbols: maps whose keys are structs. -/
namespace Go.Proofs.YtdigiaigbcfccaaGreatDoor
open Go.RowKit Go Go.Maps

theorem symInfo : ∃ fs, Tryz.prog.underlying 42 = some (.struct fs) ∧ fs.toList.map (fun f => (f.name != "_", f.type, f.offset)) = [(true, 9, 0), (true, 3, 1)] := ⟨_, Tryz.underlying42, by kernel_rfl⟩
theorem symCells : Tryz.prog.cellsOf 42 = 2 := by kernel_rfl
theorem strCells : Tryz.prog.cellsOf 9 = 1 := by kernel_rfl
theorem intCells : Tryz.prog.cellsOf 3 = 1 := by kernel_rfl
theorem symLaw : WideMaps.KeyLaw Tryz.prog 42 := deep_law_laid (by kernel_rfl) (m := 2) (by omega) (of_decide_eq_true (by kernel_rfl)) (by kernel_rfl) (by kernel_rfl)
theorem keySym : Keyed Tryz.prog 42 := Keyed.of_law symLaw

def okS (x : Sym) : Prop := x.1.size ≤ maxLen ∧ okI x.2
def symV (x : Sym) : Value := .agg #[.string x.1, .int .i64 x.2]
def symK (x : Sym) : Lit := .string (keyBytes [.string x.1.data.toList, .int .i64 x.2])
theorem strLits (d : Nat) {s : ByteArray} (hs : s.size ≤ maxLen) : Tryz.prog.keyLits (d + 1) 9 [.string s] = some [.string s.data.toList] := by
  unfold Program.keyLits
  rw [Tryz.underlying9]
  simp [hs]
theorem intLits (d : Nat) {n : Int} (hn : okI n) : Tryz.prog.keyLits (d + 1) 3 [.int .i64 n] = some [.int .i64 n] := by
  have hw := wfI hn
  unfold Program.keyLits
  rw [Tryz.underlying3]
  simp [hw]
set_option maxRecDepth 100000 in
theorem symLits (d : Nat) (s : ByteArray) (n : Int) (hs : s.size ≤ maxLen) (hn : okI n) : Tryz.prog.keyLits (d + 2) 42 [.string s, .int .i64 n] = some [.string s.data.toList, .int .i64 n] := by
  have h1 := strLits d hs
  have h2 := intLits d hn
  unfold Program.keyLits
  rw [Tryz.underlying42]
  simp only [symCells]
  rw [if_pos ⟨rfl, by kernel_rfl⟩]
  simp [List.mapM_cons, strCells, intCells, h1, h2]
theorem typesTwo : ∃ d, Tryz.prog.types.size + 1 = d + 2 := ⟨Tryz.prog.types.size - 1, by have : 1 ≤ Tryz.prog.types.size := of_decide_eq_true (by kernel_rfl); omega⟩
set_option maxRecDepth 100000 in
theorem symKey {x : Sym} (h : okS x) : keyOf Tryz.prog 42 (symV x) = some (symK x) := by
  obtain ⟨d, hd⟩ := typesTwo
  have h1 := symLits d x.1 x.2 h.1 h.2
  have h2 : Tryz.prog.keyType 42 = true := by kernel_rfl
  unfold keyOf
  rw [Tryz.underlying42]
  simp only [h2, Bool.true_and, symV, Value.formed, Tryz.underlying42, symCells]
  rw [hd]
  simp only [Value.cells]
  simp [h1, symK]
theorem okI_wf {n : Int} (h : (Lit.int .i64 n).wf = true) : okI n := by
  simp only [Lit.wf, Bool.and_eq_true, decide_eq_true_eq] at h
  exact h
set_option maxRecDepth 100000 in
theorem strLits_inv {d : Nat} {c : Value} {l : List Lit} (h : Tryz.prog.keyLits (d + 1) 9 [c] = some l) : ∃ s, c = .string s ∧ s.size ≤ maxLen := by
  unfold Program.keyLits at h
  rw [Tryz.underlying9] at h
  cases c <;> simp at h
  exact ⟨_, rfl, h.1⟩
set_option maxRecDepth 100000 in
theorem intLits_inv {d : Nat} {c : Value} {l : List Lit} (h : Tryz.prog.keyLits (d + 1) 3 [c] = some l) : ∃ n, c = .int .i64 n ∧ okI n := by
  unfold Program.keyLits at h
  rw [Tryz.underlying3] at h
  cases c <;> simp at h
  obtain ⟨⟨rfl, h2⟩, _⟩ := h
  exact ⟨_, rfl, okI_wf h2⟩
set_option maxRecDepth 100000 in
theorem symKey_inv {v : Value} {l : Lit} (h : keyOf Tryz.prog 42 v = some l) : ∃ x, okS x ∧ v = symV x := by
  obtain ⟨d, hd⟩ := typesTwo
  unfold keyOf at h
  rw [Tryz.underlying42] at h
  simp only at h
  split at h
  · rename_i hk
    rw [Bool.and_eq_true] at hk
    have hf := hk.2
    cases v with
    | agg cs =>
      simp only [Value.formed, Tryz.underlying42, symCells, beq_iff_eq] at hf
      rw [hd] at h
      unfold Program.keyLits at h
      rw [Tryz.underlying42] at h
      obtain ⟨c0, c1, rfl⟩ : ∃ c0 c1, cs = #[c0, c1] := by
        rcases cs with ⟨l⟩
        match l, hf with
        | [c0, c1], _ => exact ⟨c0, c1, rfl⟩
      simp only [symCells, Value.cells] at h
      rw [if_pos ⟨rfl, by kernel_rfl⟩] at h
      simp only [List.mapM_cons, List.mapM_nil, strCells, intCells, List.drop_zero, List.drop_succ_cons, List.take_succ_cons, List.take_zero] at h
      cases e1 : Tryz.prog.keyLits (d + 1) 9 [c0] with
      | none => rw [e1] at h; simp at h
      | some l0 =>
        cases e2 : Tryz.prog.keyLits (d + 1) 3 [c1] with
        | none => rw [e1, e2] at h; simp at h
        | some l1 =>
          obtain ⟨s, rfl, hs⟩ := strLits_inv e1
          obtain ⟨n, rfl, hn⟩ := intLits_inv e2
          exact ⟨(s, n), ⟨hs, hn⟩, rfl⟩
    | _ => simp [Value.formed, Tryz.underlying42] at hf
  · cases h
theorem symV_inj {x y : Sym} (h : symV x = symV y) : x = y := by
  obtain ⟨s, n⟩ := x
  obtain ⟨s', n'⟩ := y
  simp only [symV, Value.agg.injEq, Array.mk.injEq, List.cons.injEq, Value.string.injEq, Value.int.injEq, and_true, true_and] at h
  rw [h.1, h.2]
theorem symK_inj {x y : Sym} (hx : okS x) (hy : okS y) (h : symK x = symK y) : x = y :=
  symV_inj (keySym.inj (symKey hx) (by rw [h]; exact symKey hy))

/-- Block b is a map that says true of the symbols of S alone. -/
def SeenY (W : World) (b n : Nat) (S : List Sym) : Prop := ∃ D : DataW Unit, W.ownsMap Tryz.prog 42 (plainElem Tryz.prog 4) b n D ∧ ∀ x, okS x → (Maps.has D (symK x) = true ↔ x ∈ S)
theorem SeenY.made (w : World) : SeenY (w.alloc (.map #[] 0)) w.heap.size 0 [] := ⟨_, World.ownsMap_made w _ _ _, fun x _ => by simp [Maps.has]⟩
theorem SeenY.lt {W : World} {b n : Nat} {S : List Sym} (h : SeenY W b n S) : b < W.heap.size := by obtain ⟨D, h, _⟩ := h; exact h.lt
theorem SeenY.kept {W W' : World} {b n : Nat} {S : List Sym} {row : Option Nat} (h : SeenY W b n S) (hg : W.grownBy W' row) (hne : some b ≠ row) : SeenY W' b n S := by
  obtain ⟨D, h, hf⟩ := h; exact ⟨D, h.kept hg hne, hf⟩
theorem SeenY.put {W : World} {b n : Nat} {S : List Sym} (h : SeenY W b n S) (hn : n < maxLen) {x : Sym} (hx : okS x) : ∃ w', (Instr.mapUpdate 75 (.map (some b)) (symV x) (.bool true)).run Tryz.prog W = .ok () w' ∧ SeenY w' b (n + 1) (S ++ [x]) ∧ W.grownBy w' (some b) := by
  obtain ⟨D, h, hf⟩ := h
  obtain ⟨w', hr, h2, hg⟩ := h.update keySym Tryz.underlying75 hn (symKey hx) (plainElem_bool Tryz.underlying4 true)
  refine ⟨w', hr, ⟨_, h2, fun y hy => ?_⟩, hg⟩
  have hD : IsMap D := by obtain ⟨es, clock, _, _, _, e⟩ := h; exact ⟨_, e⟩
  by_cases e : y = x
  · subst e
    rw [has_put_same hD (by simp [symK, WideAt.IsKeyLit])]
    simp
  · rw [has_put_other (fun h => e (symK_inj hy hx h)), hf y hy]
    simp [e]
end Go.Proofs.YtdigiaigbcfccaaGreatDoor
