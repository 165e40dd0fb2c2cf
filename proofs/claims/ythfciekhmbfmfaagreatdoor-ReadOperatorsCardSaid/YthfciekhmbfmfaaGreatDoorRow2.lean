/- What the rows' proofs of layer 2 share: an argument that reads as data is a tree, or a list of trees; the tables, the start that fits, what is told behind a call that leaves all that there was. -/
import Derived.Test.YthfciekhmbfmfaaGreatDoorRows
import Derived.Test.YthfciekhmbfmfaaGreatDoorTr
import Derived.Test.YthfciekhmbfmfaaGreatDoorProg
import Derived.ProofKit
import Derived.Test.YthfciekhmbfmfaaGreatDoorMeas
import Derived.HandedShaped
import Derived.Shelf.Vars
import Derived.Lib.AppendIntMem
import Derived.LaidMore
import Derived.OpenShut
import Derived.Stop.Joined
import Derived.Stop.LaidErr
namespace Go.Proofs.YthfciekhmbfmfaaGreatDoor
open Go.ChangeShapes Go.WideShapes Go.ChangeAt Go.RowKit Go

theorem cellsTerm : Tryz.prog.cellsOf 31 = 4 := by kernel_rfl
theorem cellsInt : Tryz.prog.cellsOf 3 = 1 := by kernel_rfl
theorem cellsStr : Tryz.prog.cellsOf 9 = 1 := by kernel_rfl
theorem cellsTerms : Tryz.prog.cellsOf 29 = 1 := by kernel_rfl

/-- From a witness at each place to a list. -/
theorem list_of {α : Type} (P : Nat → α → Prop) : ∀ n : Nat, (∀ i, i < n → ∃ x, P i x) → ∃ l : List α, l.length = n ∧ ∀ i (h : i < l.length), P i l[i]
  | 0, _ => ⟨[], rfl, fun i h => by simp at h⟩
  | n + 1, h => by
    obtain ⟨l, h1, h2⟩ := list_of P n (fun i hi => h i (by omega))
    obtain ⟨x, hx⟩ := h n (by omega)
    refine ⟨l ++ [x], by simp [h1], fun i hi => ?_⟩
    by_cases hlt : i < l.length
    · rw [List.getElem_append_left hlt]; exact h2 i hlt
    · have e : i = l.length := by simp at hi; omega
      subst e
      rw [List.getElem_append_right (Nat.le_refl _)]
      simpa [h1] using hx

section
variable {H : Type} {enc : TypeId × Value → H} {W : World} {held : Bool}

theorem wf_okI {n : Int} (h : (Lit.int .i64 n).wf = true) : okI n := by
  simp only [Lit.wf, Bool.and_eq_true, decide_eq_true_eq] at h
  have e1 : IntKind.i64.min = -9223372036854775808 := by decide
  have e2 : IntKind.i64.max = 9223372036854775807 := by decide
  rw [e1, e2] at h
  exact h

theorem cell_spot {a : Addr} {v : Value} (h : W.cell? a = some v) : a.spot = none := by
  unfold World.cell? at h
  split at h
  · split at h
    · cases h
    · rename_i hs
      cases ha : a.spot with
      | none => rfl
      | some x => rw [ha] at hs; simp at hs
  · cases h
theorem four_cells {b off : Nat} {sp : Option Nat} {k : Nat} {cs : List Value} (h : W.cells? 0 ((⟨b, off, sp⟩ : Addr).add k) 4 = some cs) : ∃ v0 v1 v2 v3, (k = 0 → sp = none) ∧ b < W.heap.size ∧ cs = [v0, v1, v2, v3] ∧ W.cell? ⟨b, off + k, none⟩ = some v0 ∧ W.cell? ⟨b, off + k + 1, none⟩ = some v1 ∧ W.cell? ⟨b, off + k + 2, none⟩ = some v2 ∧ W.cell? ⟨b, off + k + 3, none⟩ = some v3 := by
  have hlt := World.cells?_block h (by omega)
  obtain ⟨_, hlen, hc⟩ := World.cells?_some h
  match cs, hlen with
  | [v0, v1, v2, v3], _ =>
    have e0 := hc 0 (by omega)
    have e1 := hc 1 (by omega)
    have e2 := hc 2 (by omega)
    have e3 := hc 3 (by omega)
    by_cases hk : k = 0
    · subst hk
      simp only [Addr.add, if_pos, List.getElem?_cons_zero, List.getElem?_cons_succ, show ¬ (1 = 0) by decide, show ¬ (2 = 0) by decide, show ¬ (3 = 0) by decide, if_false] at e0 e1 e2 e3 hlt
      have hs := cell_spot e0
      have hs' : sp = none := hs
      subst hs'
      exact ⟨v0, v1, v2, v3, fun _ => rfl, hlt, rfl, e0, e1, e2, e3⟩
    · simp only [Addr.add, if_neg hk, if_pos, List.getElem?_cons_zero, List.getElem?_cons_succ, show ¬ (1 = 0) by decide, show ¬ (2 = 0) by decide, show ¬ (3 = 0) by decide, if_false] at e0 e1 e2 e3 hlt
      exact ⟨v0, v1, v2, v3, fun h => absurd h hk, hlt, rfl, e0, e1, e2, e3⟩

theorem list_open {n : Nat} (ih : ∀ (cs : List Value) x, DataW.trod enc Tryz.prog W 0 (fun _ => true) held n 31 cs = some x → ∃ T, IsT W.heap.size W T (.agg cs.toArray)) {cs : List Value} {x : DataW H × List MemPlace}
    (h : DataW.trod enc Tryz.prog W 0 (fun _ => true) held (n + 1) 29 cs = some x) : ∃ (l : List Tr) (a : Option Addr) (c : Nat), cs = [.slice a l.length c] ∧ l.length ≤ c ∧ c ≤ maxLen ∧ IsL W.heap.size W l a := by
  rcases DataW.trod_slice Tryz.underlying29 h with ⟨rfl, _⟩ | ⟨a, len, cap, elems, rest, m, hm, rfl, _, _, hlc, hcm, hel, hread, _⟩
  · exact ⟨[], none, 0, rfl, Nat.le_refl _, by unfold maxLen; omega, IsL.nil⟩
  · obtain rfl : n = m := by omega
    obtain ⟨b, off, sp⟩ := a
    have key : ∀ i, i < len → ∃ T, (i = 0 → sp = none) ∧ b < W.heap.size ∧ ∃ v0 v1 v2 v3, W.cell? ⟨b, off + i * 4, none⟩ = some v0 ∧ W.cell? ⟨b, off + i * 4 + 1, none⟩ = some v1 ∧ W.cell? ⟨b, off + i * 4 + 2, none⟩ = some v2 ∧ W.cell? ⟨b, off + i * 4 + 3, none⟩ = some v3 ∧ IsT W.heap.size W T (.agg #[v0, v1, v2, v3]) := fun i hi => by
      have h1 := hread i hi
      rw [List.getElem?_eq_getElem (show i < elems.length by omega), cellsTerm] at h1
      obtain ⟨cs', h2, h3⟩ := Option.bind_eq_some_iff.1 h1
      obtain ⟨v0, v1, v2, v3, hs, hb, rfl, c0, c1, c2, c3⟩ := four_cells h2
      obtain ⟨T, hT⟩ := ih _ _ h3
      exact ⟨T, fun e => hs (by omega), hb, v0, v1, v2, v3, c0, c1, c2, c3, hT⟩
    obtain ⟨l, hl, hP⟩ := list_of _ len key
    refine ⟨l, some ⟨b, off, sp⟩, cap, by rw [hl], by omega, hcm, ?_⟩
    by_cases h0 : 0 < l.length
    · obtain ⟨hs, hb, _⟩ := hP 0 h0
      obtain rfl := hs rfl
      exact IsL.of_get hb fun i hi => (hP i hi).2.2
    · have : l = [] := List.length_eq_zero_iff.1 (by omega)
      subst this
      exact IsL.nil

set_option maxRecDepth 100000 in
theorem term_open : ∀ (fuel : Nat) (cs : List Value) (x : DataW H × List MemPlace), DataW.trod enc Tryz.prog W 0 (fun _ => true) held fuel 31 cs = some x → ∃ T, IsT W.heap.size W T (.agg cs.toArray) := by
  intro fuel
  induction fuel using Nat.strongRecOn with
  | ind fuel ih =>
  intro cs x h
  obtain ⟨xs, n, rfl, _, hlen, hxl, hf⟩ := DataW.trod_struct Tryz.underlying31 h
  rw [cellsTerm] at hlen
  match cs, hlen with
  | [c0, c1, c2, c3], _ =>
    have f0 : DataW.trod enc Tryz.prog W 0 (fun _ => true) held n 3 (([c0, c1, c2, c3].drop 0).take (Tryz.prog.cellsOf 3)) = xs[0]? := hf 0 _ rfl
    have f1 : DataW.trod enc Tryz.prog W 0 (fun _ => true) held n 3 (([c0, c1, c2, c3].drop 1).take (Tryz.prog.cellsOf 3)) = xs[1]? := hf 1 _ rfl
    have f2 : DataW.trod enc Tryz.prog W 0 (fun _ => true) held n 9 (([c0, c1, c2, c3].drop 2).take (Tryz.prog.cellsOf 9)) = xs[2]? := hf 2 _ rfl
    have f3 : DataW.trod enc Tryz.prog W 0 (fun _ => true) held n 29 (([c0, c1, c2, c3].drop 3).take (Tryz.prog.cellsOf 29)) = xs[3]? := hf 3 _ rfl
    have hx4 : xs.length = 4 := hxl
    rw [List.getElem?_eq_getElem (by omega), cellsInt] at f0 f1
    rw [List.getElem?_eq_getElem (by omega), cellsStr] at f2
    rw [List.getElem?_eq_getElem (by omega), cellsTerms] at f3
    obtain ⟨k, e0, _, w0⟩ := DataW.trod_int Tryz.underlying3 f0
    obtain ⟨m, e1, _, w1⟩ := DataW.trod_int Tryz.underlying3 f1
    obtain ⟨s, e2, _, w2⟩ := DataW.trod_string Tryz.underlying9 f2
    cases n with
    | zero => simp [DataW.trod] at f3
    | succ n =>
      obtain ⟨l, a, c, e3, h1, h2, h3⟩ := list_open (fun cs x h => ih n (by omega) cs x h) f3
      simp at e0 e1 e2 e3
      subst e0 e1 e2 e3
      exact ⟨.node k m s l, IsT.mk (wf_okI w0) (wf_okI w1) w2 h1 h2 h3⟩
set_option maxRecDepth 100000 in
theorem open_term {v : Value} {d : DataW H} {ps : List MemPlace} {base : Nat} (hv : Value.okWide Tryz.prog W .any base 31 v) (h : DataW.Trod enc Tryz.prog W 0 (fun _ => true) held 31 v d ps) : ∃ T, IsT W.heap.size W T v := by
  obtain ⟨cs, rfl, _⟩ := okWide_struct Tryz.underlying31 hv
  obtain ⟨fuel, hf⟩ := h
  have := term_open fuel _ _ hf
  simpa [Value.cells] using this
set_option maxRecDepth 100000 in
theorem open_terms {v : Value} {d : DataW H} {ps : List MemPlace} {base : Nat} (hv : Value.okWide Tryz.prog W .any base 29 v) (h : DataW.Trod enc Tryz.prog W 0 (fun _ => true) held 29 v d ps) : ∃ (l : List Tr) (a : Option Addr) (c : Nat), v = .slice a l.length c ∧ l.length ≤ c ∧ c ≤ maxLen ∧ IsL W.heap.size W l a := by
  obtain ⟨a, len, cap, rfl⟩ := okWide_slice Tryz.underlying29 hv
  obtain ⟨fuel, hf⟩ := h
  cases fuel with
  | zero => simp [DataW.trod] at hf
  | succ n =>
    obtain ⟨l, a', c', e, h1, h2, h3⟩ := list_open (fun cs x h => term_open n cs x h) (show DataW.trod enc Tryz.prog W 0 (fun _ => true) held (n + 1) 29 [.slice a len cap] = some (d, ps) by simpa [Value.cells] using hf)
    simp at e
    obtain ⟨rfl, rfl, rfl⟩ := e
    exact ⟨l, a, cap, rfl, h1, h2, h3⟩

theorem bytesTerm : Tryz.prog.bytesOf 31 = 56 := by kernel_rfl
/-- A slice that was read is nil, or a datum of as many parts as it has room for. -/
theorem open_reach {a : Option Addr} {len cap : Nat} {d : DataW H} {ps : List MemPlace} (h : DataW.Trod enc Tryz.prog W 0 (fun _ => true) held 29 (.slice a len cap) d ps) : cap = 0 ∨ ∃ elems spare, d = .slice elems spare ∧ elems.length + spare.length = cap := by
  obtain ⟨fuel, hf⟩ := h
  rcases DataW.trod_slice Tryz.underlying29 (show DataW.trod enc Tryz.prog W 0 (fun _ => true) held fuel 29 [.slice a len cap] = some (d, ps) by simpa [Value.cells] using hf) with ⟨hc, _⟩ | ⟨a', len', cap', elems, rest, m, _, hc, hx, _, hlc, _, hel, _, hsp, _⟩
  · simp at hc
    exact .inl hc.2.2
  · simp at hc
    obtain ⟨rfl, rfl, rfl⟩ := hc
    simp only [Prod.mk.injEq] at hx
    exact .inr ⟨_, _, hx.1, by have := (hsp rfl).1; simp; omega⟩

theorem trodAll_below {P : Program} (hl : laidOutB P = true) {W W' : World} (hb : Below W.heap.size W W') : ∀ (ts : List TypeId), (∀ t, t ∈ ts → P.readableRec t = true ∧ t < P.types.size) → ∀ (vs : List Value) (ds : List (DataW H)) (ps : List MemPlace), DataW.TrodAll enc P W 0 (fun _ => true) true ts vs ds ps → (∀ x ∈ ps, x.block < W.heap.size) → DataW.TrodAll enc P W' 0 (fun b => decide (b < W.heap.size)) true ts vs ds ps
  | [], _, [], [], _, h, _ => h
  | t :: ts, ht, v :: vs, d :: ds, _, ⟨p, q, h1, h2, e⟩, hlt => by
    subst e
    exact ⟨p, q, Below.trod hl (ht t (by simp)).1 (ht t (by simp)).2 h1 hb (fun x hx => hlt x (List.mem_append_left _ hx)), trodAll_below hl hb ts (fun u hu => ht u (List.mem_cons_of_mem _ hu)) vs ds q h2 (fun x hx => hlt x (List.mem_append_right _ hx)), rfl⟩
  | [], _, _ :: _, _, _, h, _ => h.elim
  | [], _, [], _ :: _, _, h, _ => h.elim
  | _ :: _, _, [], _, _, h, _ => h.elim
  | _ :: _, _, _ :: _, [], _, h, _ => h.elim
end


theorem own : ownKnob Tryz.prog.godebug = none := by kernel_rfl
theorem laidOut : laidOutB Tryz.prog = true := by kernel_rfl
/-- The listed tables. -/
def laid3 : List (String × DataW Unit) := [("math/bits.deBruijn32tab", Rows.laid_math_bits_deBruijn32tab), ("math/bits.deBruijn64tab", Rows.laid_math_bits_deBruijn64tab), ("internal/strconv.uint64pow10", Rows.laid_internal_strconv_uint64pow10)]
theorem gPow : Tryz.prog.globalNamed "internal/strconv.uint64pow10" = some 0 := by kernel_rfl
theorem tPow : (Tryz.prog.globals[0]?).map (·.type) = some 221 := by kernel_rfl
theorem tab_of {W : World} (h : laidMetH Tryz.prog laid3 W) : Lib.TabBelow Tryz.prog W.heap.size W "internal/strconv.uint64pow10" .u64 Lib.pow10Tab := by
  rw [MakeChecks.laidMetH_plain _ _ _ (by kernel_rfl)] at h
  have h5 : laidMet Tryz.prog [("internal/strconv.uint64pow10", Lib.tabData .u64 Lib.pow10Tab)] W := (laidMet.tail (laidMet.tail h))
  exact Lib.tabBelow_of_tabIs (Lib.tabIs_of_head gPow tPow Tryz.underlying221 Tryz.underlying212 (by kernel_rfl) (by kernel_rfl) h5)
theorem door_met (os : Os) (args : Array Value) : laidMetH Tryz.prog laid3 ((World.doorLaid Tryz.prog 400 os).forCall (fun _ _ => 0) ⟨#[], args, []⟩).memory :=
  laidMetH_of_parts3 (fuel := 8) (laidMet_of_run' 8 (by kernel_rfl) (by kernel_rfl)) (by kernel_rfl) (by kernel_rfl)

/-- Behind a call that leaves what there was and hands back true. -/
theorem post_true {H : Type} {enc : TypeId × Value → H} {fn : Func} {s : ChangeSpec} {W W' : World} {args : Array Value} {ds : List (DataW H)} {p : List MemPlace} (hr : fn.resultTypes = #[4]) (hv : s.vars = [])
    (hs : (s.fn H (ds ++ [])).results = [.lit (.bool true)] ∧ (s.fn H (ds ++ [])).args = ds ∧ (s.fn H (ds ++ [])).vars = [])
    (hts : ∀ t, t ∈ fn.params.toList → Tryz.prog.readableRec t = true ∧ t < Tryz.prog.types.size)
    (hW : DataW.Whole enc Tryz.prog fn.params.toList s.vars false W args.toList ds [] p) (hA : DataW.TrodAll enc Tryz.prog W 0 (fun _ => true) true fn.params.toList args.toList ds p) (hB : Below W.heap.size W W') :
    s.post enc Tryz.prog fn false true false false W args (.bool true) W' := by
  have hlt : ∀ x ∈ p, x.block < W.heap.size := fun x hx => by simpa using hW.lt x hx
  refine ⟨ds, [], p, [], p, [], hW, ?_, ?_, ?_, hB.frame _, fun h => by cases h⟩
  · rw [hs.1, hr]
    exact trodAll_mk1 (shut_bool Tryz.underlying4 true)
  · rw [hs.2.1]
    exact trodAll_below laidOut hB _ hts _ _ _ hA hlt
  · rw [hs.2.2, hv]
    rfl
/-- As the kit's returnsInHanded_of_change_and, the world's shape kept. -/
theorem handed_shaped {H : Type} {enc : TypeId × Value → H} {a : Assume} {C : Checked} {os : Os} {f : FuncId} {fn : Func} {s : ChangeSpec} {conds : List PathCond} {apart fresh handsOn again : Bool} {X : World → Array Value → Prop}
    (hX : ∀ (w w' : World) (args : Array Value), w.heap = w'.heap → X w args → X w' args)
    (own : ownKnob C.prog.godebug = none) (started : os.Started) (noInit : C.prog.inits.idxOf? f = none) (hfn : C.prog.funcs[f]? = some fn)
    (witness : ∃ (w : World) (tape : Tape) (i : Input), w.os = os ∧ (w.forCall tape i).Shaped C.prog ∧ i.vars = [] ∧ Input.okWide C.prog (w.forCall tape i) .any w.heap.size f i ∧
      ((s.pre enc C.prog fn conds apart (w.forCall tape i).memory i.args ∧ X (w.forCall tape i).memory i.args) ∧ sizedMet enc C.prog fn (OpenSpec.ofChange s) apart (w.forCall tape i).memory i.args) ∧ a.holds C.prog (lone (Frame.enter C.prog f i.args .normal) [] (w.forCall tape i)))
    (contract : ∀ (W : World) (base : Nat) (args : Array Value) (ds gs : List (DataW H)) (before : List MemPlace),
      (∀ (j : Nat) t v, fn.params[j]? = some t → args[j]? = some v → Value.okWide C.prog W .any base t v) →
      DataW.Whole enc C.prog fn.params.toList s.vars apart W args.toList ds gs before →
      (DataW.weightsEach C.prog (fn.params.toList ++ s.plain.varTypes C.prog) (ds ++ gs)).all (· ≤ reachBytes) = true → X W args → W.ShapedOpen C.prog →
      Calls C.prog f args W fun e W' => ∃ v, e = .returned v ∧ s.post enc C.prog fn apart fresh handsOn again W args v W') :
    ReturnsInHanded a C os f .any (fun w args => (s.pre enc C.prog fn conds apart w args ∧ X w args) ∧ sizedMet enc C.prog fn (OpenSpec.ofChange s) apart w args) (s.post enc C.prog fn apart fresh handsOn again) := by
  refine returnsInHanded_of_calls own started noInit witness ?_
  intro w tape i _ hsh _ hok hpre _
  obtain ⟨_, _, _, fn', hfn', _, _, _, _, hval⟩ := hok
  have e : fn' = fn := Option.some.inj (hfn'.symm.trans hfn)
  subst e
  obtain ⟨⟨⟨ds, gs, before, hw, _⟩, hx⟩, hz⟩ := hpre
  have hw' := DataW.Whole.of_heap (w' := w.forCall tape i) (by rfl) hw
  refine (contract (w.forCall tape i) w.heap.size i.args ds gs before hval hw' (hz.weights hw) (hX _ _ _ (by rfl) hx) hsh).mono fun e W' ⟨v, he, hp⟩ => ?_
  subst he
  exact ChangeSpec.post_blind hp
/-- The cell of MaxLen holds some number, and lies in the world. -/
theorem max_of {W : World} (h : W.ShapedOpen Tryz.prog) : (∃ mm, W.cell? ⟨1, 0, none⟩ = some (.int .i64 mm)) ∧ 1 < W.heap.size := by
  have hc := cell_of_shapedOpen_int (P := Tryz.prog) (g := 1) (zero := #[.int .i64 0]) (t := 3) h (of_decide_eq_true (by kernel_rfl)) (by kernel_rfl) rfl (by kernel_rfl) (by kernel_rfl) Tryz.underlying3
  refine ⟨hc, ?_⟩
  obtain ⟨mm, hm⟩ := hc
  rcases Nat.lt_or_ge 1 W.heap.size with hl | hl
  · exact hl
  · simp [World.cell?, Array.getElem?_eq_none hl] at hm
end Go.Proofs.YthfciekhmbfmfaaGreatDoor
