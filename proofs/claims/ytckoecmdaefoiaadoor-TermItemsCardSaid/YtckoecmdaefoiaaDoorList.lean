/- A list is made of items from the last to the first: what Backward hands back, and the round that lays a cell. -/
import Derived.Test.YtckoecmdaefoiaaDoorItems
namespace Go.Proofs.YtckoecmdaefoiaaDoor
open Go.RowKit Go

attribute [local go_sem] Oper.semAt_some

mutual
theorem IsP.solid {p : Nat → Prop} {W : World} : ∀ (T : Tr) (v : Value), IsP p W T v → IsP (fun b => p b ∧ ∃ o, W.heap[b]? = some o ∧ o.isCells = true) W T v
  | .node k n s l, v, h => by
    unfold IsP at h ⊢
    obtain ⟨a, c, e, h1, h2, h3, h4, h5, h6⟩ := h
    exact ⟨a, c, e, h1, h2, h3, h4, h5, IsPL.solid l a h6⟩
theorem IsPL.solid {p : Nat → Prop} {W : World} : ∀ (l : List Tr) (a : Option Addr), IsPL p W l a → IsPL (fun b => p b ∧ ∃ o, W.heap[b]? = some o ∧ o.isCells = true) W l a
  | [], _, _ => IsPL.nil
  | t :: ts, a, h => by
    unfold IsPL at h ⊢
    obtain ⟨b, off, v0, v1, v2, v3, e, hp, c0, c1, c2, c3, ht, hl⟩ := h
    exact ⟨b, off, v0, v1, v2, v3, e, ⟨hp, cells_of_cell c0⟩, c0, c1, c2, c3, IsP.solid t _ ht, IsPL.solid ts _ hl⟩
end

/-- An element that Backward yields: its index, its tree, its value. -/
abbrev Bk (n₀ : Nat) (W₀ : World) := { x : Int × Tr × Value // IsT n₀ W₀ x.2.1 x.2.2 ∧ x.2.1.size ≤ 1000000 }
def Bk.encs {n₀ : Nat} {W₀ : World} (x : Bk n₀ W₀) : Array Value := #[.int .i64 x.1.1, x.1.2.2]
def Bk.tr {n₀ : Nat} {W₀ : World} (x : Bk n₀ W₀) : Tr := x.1.2.1
/-- What lies below keeps, and the iterator's box. -/
structure KB (n₀ Bt : Nat) (A B : World) : Prop where
  below : Below n₀ A B
  box : ∀ (c : Array Value) (t : TypeId) (fr : Nat × Nat), A.heap[Bt]? = some (Obj.cells c t fr) → B.heap[Bt]? = some (Obj.cells c t fr)
theorem KB.refl (n₀ Bt : Nat) (A : World) : KB n₀ Bt A A := ⟨Below.refl _ _, fun _ _ _ h => h⟩
theorem KB.trans {n₀ Bt : Nat} {A B C : World} (h : KB n₀ Bt A B) (k : KB n₀ Bt B C) : KB n₀ Bt A C := ⟨h.below.trans k.below, fun c t fr hi => k.box c t fr (h.box c t fr hi)⟩
theorem KB.bookkeeping {n₀ Bt : Nat} {w : World} (hn : n₀ ≤ w.heap.size) (W : World) (l : Nat) (o o' : Obj) (hl : w.heap.size ≤ l) (h : W.heap[l]? = some o) (ho : o.isCells = false) (hk : o.isWalk = false) : KB n₀ Bt W (W.putObj l o') :=
  ⟨belowK_b hn W l o o' hl h ho hk, fun c t fr hc => by
    rw [World.putObj_heap_other (fun e => by subst e; rw [h] at hc; cases hc; cases ho)]
    exact hc⟩

set_option maxRecDepth 100000 in
set_option maxHeartbeats 2000000 in
theorem back_in (F : Fence) (hd : F.depth = none) (n : Nat) (hf : ∀ f, F.fn f) (hro : F.round = none) (l Bt n₀ : Nat) (W₀ : World) (ts : List Tr) (a : Option Addr) (c : Nat) (hL : IsL n₀ W₀ ts a) (hz : ∀ t, t ∈ ts → t.size ≤ 1000000) (hm : ts.length ≤ maxLen) (J Jx : List (Bk n₀ W₀) → World → Prop)
    (hY : ∀ pre (x : Bk n₀ W₀) W, J pre W → pre.length < ts.length → YieldAt F (n - 1) Tryd.prog l x.encs W fun e W' =>
      (e = .returned (.bool true) ∧ J (pre ++ [x]) W' ∧ KB n₀ Bt W W') ∨ (e = .returned (.bool false) ∧ Jx (pre ++ [x]) W'))
    (W : World) (hBt : Box W Bt #[.slice a ts.length c] 22) (hBW : Below n₀ W₀ W) (hnW : n₀ ≤ W.heap.size) (h0 : J [] W) :
    CallsIn F n Tryd.prog 132 #[.func (.yield l) #[] #[], .pointer (some ⟨Bt, 0, none⟩)] W fun e W' => (∃ v, e = .returned v) ∧
      ((∃ ys : List (Bk n₀ W₀), ys.map Bk.tr = ts.reverse ∧ J ys W') ∨ (∃ pre : List (Bk n₀ W₀), pre.map Bk.tr <+: ts.reverse ∧ Jx pre W')) := by
  have hm' : ts.length ≤ 9223372036854775807 := by unfold maxLen at hm; omega
  have hdd : ∀ k : Nat, (F.depth.isSome = true → 1 ≤ k) := fun k h => by rw [hd] at h; cases h
  have hc0 := hBt.cell 0
  simp only [List.getElem?_toArray, List.getElem?_cons_zero] at hc0
  have HY := Lib.hid hY
  have HL := Lib.hid hL
  have HBt := Lib.hid hBt
  clear hY hL hBt
  refine callsIn_of_wp Tryd.func132 rfl (hf _) ?_ hro
  simp only [Tryd.ntmps132, List.size_toArray, List.length_cons, List.length_nil, Nat.reduceAdd, Nat.reduceSub, Array.replicate_succ, Array.replicate_zero, List.push_toArray, List.append_toArray, List.nil_append, List.cons_append]
  gi_wp2_with fail
  gi_loopw [3] (fun i wr => ∃ ys : List (Bk n₀ W₀), ys.length ≤ ts.length ∧ i = .int .i64 ((ts.length : Int) - 1 - ys.length) ∧ ys.map Bk.tr = ts.reverse.take ys.length ∧ J ys wr ∧ KB n₀ Bt W wr) (fun i _ => (intOf i + 1).toNat)
  case atStart => exact ⟨[], Nat.zero_le _, by simp, rfl, h0, KB.refl _ _ _⟩
  case round =>
    obtain ⟨ys, hy, rfl, hys, hJ, hK⟩ := hrel
    have Hys := Lib.hid hys
    clear hys hc0
    by_cases hlt : ys.length < ts.length
    · obtain ⟨b, off, rfl, hb⟩ := HL.out.addr (by omega)
      have hj : ts.length - 1 - ys.length < ts.length := by omega
      obtain ⟨tk, tn, tss, tl, ta, tc, te, c0, c1, c2, c3, ht⟩ := HL.out.node' hb (hBW.trans hK.below) (ts.length - 1 - ys.length) hj
      have hbx : Box wr Bt #[.slice (some ⟨b, off, none⟩) ts.length c] 22 := hK.box _ _ _ HBt.out
      have q0 := hbx.cell 0
      simp only [List.getElem?_toArray, List.getElem?_cons_zero] at q0
      have hlq := hbx.lt
      have hbw : b < wr.heap.size := by have := hK.below.size; omega
      have hx := HY.out ys ⟨((ts.length : Int) - 1 - ys.length, ts[ts.length - 1 - ys.length], _), ht, hz _ (List.getElem_mem hj)⟩ wr hJ hlt
      dsimp only [Bk.encs] at hx
      have hx' := yield_any hd (n - 1) hx
      obtain ⟨fn, tmps, assign, body, hy', hR⟩ := hx'
      have hsn : ys.map Bk.tr ++ [ts[ts.length - 1 - ys.length]] = ts.reverse.take (ys.length + 1) := by rw [List.take_succ_eq_append_getElem (by simpa using hlt), List.getElem_reverse, Hys.out]
      have HS := Lib.hid hsn
      clear hsn
      have hji : ((ts.length : Int) - 1 - ys.length) = ((ts.length - 1 - ys.length : Nat) : Int) := by omega
      rw [hji] at hR hy' ⊢
      generalize ts.length - 1 - ys.length = j at *
      have Te := Lib.hid te
      clear te hx hbx
      gi_wp2_with fail
      refine hR.mono ?_
      rintro e W1 (⟨rfl, hJ1, hk1⟩ | ⟨rfl, hJx1⟩)
      · clear hR hy'
        have HJ1 := Lib.hid hJ1
        clear hJ1
        gi_wp2_with fail
        go_roundw
        case rel =>
          refine ⟨_, ?_, ?_, ?_, HJ1.out, hK.trans hk1⟩
          · simp; omega
          · go_num
          · rw [List.map_append, len_snoc]; exact HS.out
        case measure => first | (simp [intOf]; done) | (simp [intOf]; omega)
      · clear hR hy'
        have HJ1 := Lib.hid hJx1
        clear hJx1
        gi_wp2_with fail
        refine bodyPost_ret (results_none rfl _ _ _) rfl ?_
        refine ⟨⟨_, rfl⟩, .inr ⟨_, ?_, HJ1.out⟩⟩
        have hp := List.take_prefix (ys.length + 1) ts.reverse
        rw [← HS.out] at hp
        rw [List.map_append]
        exact hp
    · gi_wp2_with fail
      go_end0
      refine ⟨⟨_, rfl⟩, .inl ⟨ys, ?_, hJ⟩⟩
      rw [Hys.out, List.take_of_length_le (by simp; omega)]

/-- Backward(items): the slice in a box; the function captures the box. -/
theorem back_any (a : Option Addr) (len c : Nat) (w : World) :
    Calls Tryd.prog 111 #[.slice a len c] w fun e w' => e = .returned (.func (.func 132) #[] #[.pointer (some ⟨w.heap.size, 0, none⟩)]) ∧ w' = w.alloc (.cells #[.slice a len c] 22) := by
  go_enter Tryd.func111, Tryd.ntmps111
  go_wp2_with fail
  go_ret
  exact ⟨rfl, rfl⟩
theorem back_stops (F : Fence) (hd : F.depth = none) (n : Nat) (hf : ∀ f, F.fn f) (hro : F.round = none) (Bt n₀ : Nat) (ts : List Tr) (a : Option Addr) (c : Nat) (W₀ w : World) (hL : IsL n₀ W₀ ts a) (hz : ∀ t, t ∈ ts → t.size ≤ 1000000) (hm : ts.length ≤ maxLen) (hBt : Box w Bt #[.slice a ts.length c] 22) (hBW : Below n₀ W₀ w) (hn₀ : n₀ ≤ w.heap.size) :
    SeqStopsK F n Tryd.prog 132 #[.pointer (some ⟨Bt, 0, none⟩)] (Bk.encs (n₀ := n₀) (W₀ := W₀)) (KB n₀ Bt) (fun ys => ys.map Bk.tr = ts.reverse) (fun pre => pre.map Bk.tr <+: ts.reverse) ts.length w := fun l J Jx W hW _ _ hY h0 =>
  back_in F hd n hf hro l Bt n₀ W₀ ts a c hL hz hm J Jx hY W (hBt.keep hW) (hBW.trans (hW.mono hn₀)) (Nat.le_trans hn₀ hW.size) h0

theorem range_back {F : Fence} {n : Nat} (hd : F.depth = none) (hf : ∀ f, F.fn f) (hro : F.round = none) (h1 : 1 ≤ n) {g : Operand} {ps : Array Tmp} {assign body : Code} {Q : Exit → Act → World → Prop} {ac : Act} {w : World}
    (Bt n₀ : Nat) (ts : List Tr) (a : Option Addr) (c : Nat) (W₀ : World) (hg : ac.eval g = .func (.func 132) #[] #[.pointer (some ⟨Bt, 0, none⟩)]) (hBt : Box w Bt #[.slice a ts.length c] 22) (hBW : Below n₀ W₀ w) (hn₀ : n₀ ≤ w.heap.size)
    (hL : IsL n₀ W₀ ts a) (hz : ∀ t, t ∈ ts → t.size ≤ 1000000) (hm : ts.length ≤ maxLen) (hps : ps.size = 2)
    (I : List (Bk n₀ W₀) → World → Prop) (hI : OwnFrom w.heap.size I) (h0 : I [] w)
    (h : ∃ a₂ : Int → Value → Nat → Act, (∀ (l : Nat) (pre : List (Bk n₀ W₀)) (x : Bk n₀ W₀) (W : World) (K : Act → World → Prop), I pre W →
        (∀ Bx W', KeepsFrom w.heap.size W W' → KB n₀ Bt W W' → I pre W' → W'.heap[Bx]? = some (.cells x.1.2.2.cells 25 (0, 0)) → K (a₂ x.1.1 x.1.2.2 Bx) W') →
        assign.wpIn (F.inRound l) (n - 1 - 1) Tryd.prog (Exit.then K (fun _ _ _ => False)) { tmps := (ps.zip x.encs).foldl (fun t (p, v) => t.setIfInBounds p v) ac.tmps, defers := [] } W) ∧
      (∀ (l : Nat) (pre : List (Bk n₀ W₀)) (x : Bk n₀ W₀) (Bx : Nat) (W : World), I pre W → W.heap[Bx]? = some (.cells x.1.2.2.cells 25 (0, 0)) → pre.length < ts.length → body.wpIn (F.inRound l) (n - 1 - 1) Tryd.prog (ownPostG w.heap.size (KB n₀ Bt) I (fun _ _ _ => False) (pre ++ [x]) W) (a₂ x.1.1 x.1.2.2 Bx) W) ∧
      (∀ (D : Nat) (xs : List (Bk n₀ W₀)) (W : World), w.heap.size ≤ D → xs.map Bk.tr = ts.reverse → I xs W → W.heap[D]? = some (.deferred (some [])) → Q .normal { ac with defers := { target := .collected D, args := #[] } :: ac.defers } W)) :
    (Code.rangeFunc g ps assign body).wpIn F n Tryd.prog Q ac w := by
  obtain ⟨a₂, hA, hB, hD⟩ := h
  exact wpIn_rangeFunc_ownH hro h1 (gf := 132) (lb := #[.pointer (some ⟨Bt, 0, none⟩)]) hg (hf _) (enters_of Tryd.func132 (by kernel_rfl) rfl)
    (back_stops F hd (n - 1) hf hro Bt n₀ ts a c W₀ w hL hz hm hBt hBW hn₀) KB.trans (KB.bookkeeping hn₀) (Below.refl _ _) (fun x => by rw [hps]; rfl) I (fun _ _ _ => False) hI (fun _ _ _ _ _ h _ _ => h) h0
    (fun x a' W => ∃ Bx, W.heap[Bx]? = some (.cells x.1.2.2.cells 25 (0, 0)) ∧ a' = a₂ x.1.1 x.1.2.2 Bx)
    (fun x a' _ X Y row hs hg hrow => by
      obtain ⟨Bx, h2, h3⟩ := hs
      refine ⟨Bx, (hg.block Bx (Array.getElem?_eq_some_iff.1 h2).1 (fun e => ?_)).trans h2, h3⟩
      obtain ⟨_, o, ho, hc⟩ := hrow Bx e.symm
      rw [h2] at ho
      cases ho
      cases hc)
    (fun l pre x W K hi hK => hA l pre x W K hi fun Bx W' h2 h3 h4 h5 => hK _ _ h2 h3 h4 ⟨Bx, h5, rfl⟩)
    (fun l pre x a' W _ _ hi ⟨Bx, h2, h3⟩ hN => by subst h3; exact hB l pre x Bx W hi h2 hN) hD (fun _ _ _ _ _ _ h _ => h.elim)
end Go.Proofs.YtckoecmdaefoiaaDoor
