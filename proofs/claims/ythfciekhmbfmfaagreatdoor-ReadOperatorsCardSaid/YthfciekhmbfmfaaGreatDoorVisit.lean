import Derived.RangeFuncNested
import Derived.RangeFuncBound
import Derived.RangeFuncCalls
import Derived.RangeFuncLeaves
import Derived.Shelf.Abstract
import Derived.Shelf.RegionOpen
import Derived.OwnWalkIn
import Derived.TacticsInMore
import Derived.LoopNIn
import Derived.LoopIn
import Derived.Test.YthfciekhmbfmfaaGreatDoorTr
import Derived.RangeFuncBox
import Derived.Test.YthfciekhmbfmfaaGreatDoorMono
namespace Go.Proofs.YthfciekhmbfmfaaGreatDoor
open Go.RowKit Go Go.Shelf

attribute [local go_sem] Oper.semAt_some

mutual
/-- The nodes in the order of their places, with how deep each lies. -/
def preT (d : Int) : Tr → List (Int × Tr)
  | .node k n s l => (d, .node k n s l) :: preL (d + 1) l
def preL (d : Int) : List Tr → List (Int × Tr)
  | [] => []
  | t :: ts => preT d t ++ preL d ts
end

mutual
def Tr.size : Tr → Nat
  | .node _ _ _ l => 1 + sizeL l
def sizeL : List Tr → Nat
  | [] => 0
  | t :: ts => t.size + sizeL ts
end

mutual
def Tr.deep : Tr → Nat
  | .node _ _ _ l => 1 + deepL l
def deepL : List Tr → Nat
  | [] => 0
  | t :: ts => max t.deep (deepL ts)
end

theorem preL_append (d : Int) (l l' : List Tr) : preL d (l ++ l') = preL d l ++ preL d l' := by
  induction l with
  | nil => simp [preL]
  | cons t ts ih => simp [preL, ih]
theorem preL_take (d : Int) (l : List Tr) (i : Nat) (h : i < l.length) : preL d (l.take (i + 1)) = preL d (l.take i) ++ preT d l[i] := by
  rw [List.take_succ_eq_append_getElem h, preL_append]
  simp [preL]
mutual
theorem preT_length (d : Int) : ∀ T : Tr, (preT d T).length = T.size
  | .node _ _ _ l => by simp [preT, Tr.size, preL_length (d + 1) l]; omega
theorem preL_length (d : Int) : ∀ l : List Tr, (preL d l).length = sizeL l
  | [] => rfl
  | t :: ts => by simp [preL, sizeL, preT_length d t, preL_length d ts]
end
theorem sizeL_append (l l' : List Tr) : sizeL (l ++ l') = sizeL l + sizeL l' := by
  induction l with
  | nil => simp [sizeL]
  | cons t ts ih => simp [sizeL, ih]; omega
theorem deep_mem {t : Tr} : ∀ {l : List Tr}, t ∈ l → t.deep ≤ deepL l
  | x :: xs, h => by
    rcases List.mem_cons.1 h with rfl | h
    · simp [deepL]; omega
    · have := deep_mem h; simp [deepL]; omega
theorem size_take {l : List Tr} (i : Nat) (h : i < l.length) : sizeL (l.take i) + l[i].size ≤ sizeL l := by
  have e : l = l.take i ++ l[i] :: l.drop (i + 1) := by simp
  have : sizeL l = sizeL (l.take i) + (l[i].size + sizeL (l.drop (i + 1))) := by
    conv => lhs; rw [e]
    rw [sizeL_append]; simp [sizeL]
  omega
theorem preL_take_prefix (d : Int) (l : List Tr) (i : Nat) : preL d (l.take i) <+: preL d l := by
  have e : l = l.take i ++ l.drop i := by simp
  conv => rhs; rw [e]
  rw [preL_append]
  exact List.prefix_append _ _

/-- A node that is handed to a round: how deep, the tree, its value. -/

def okD (d : Int) : Prop := 1 ≤ d ∧ d ≤ 1000000000
abbrev Nd (n₀ : Nat) (W₀ : World) : Type := { x : Int × Tr × Value // IsT n₀ W₀ x.2.1 x.2.2 ∧ okD x.1 }
def Nd.encs {n₀ : Nat} {W₀ : World} (x : Nd n₀ W₀) : Array Value := #[.int .i64 x.1.1, x.1.2.2]
def Nd.fg {n₀ : Nat} {W₀ : World} (x : Nd n₀ W₀) : Int × Tr := (x.1.1, x.1.2.1)

/-- What a round keeps: all below n₀; and every block of terms. -/
structure KT (n₀ : Nat) (A B : World) : Prop where
  below : Below n₀ A B
  terms : ∀ (k : Nat) (c : Array Value) (fr : Nat × Nat), A.heap[k]? = some (Obj.cells c 31 fr) → B.heap[k]? = some (Obj.cells c 31 fr)
theorem KT.refl (n₀ : Nat) (A : World) : KT n₀ A A := ⟨Below.refl _ _, fun _ _ _ h => h⟩
theorem KT.trans {n₀ : Nat} {A B C : World} (h : KT n₀ A B) (k : KT n₀ B C) : KT n₀ A C := ⟨h.below.trans k.below, fun i c fr hi => k.terms i c fr (h.terms i c fr hi)⟩
theorem KT.alloc {n₀ : Nat} {A B : World} (h : KT n₀ A B) (hn : n₀ ≤ B.heap.size) (o : Obj) : KT n₀ A (B.alloc o) :=
  ⟨h.below.alloc hn o, fun k c fr hk => by
    have := h.terms k c fr hk
    exact (Below.heap_alloc B o k (Array.getElem?_eq_some_iff.1 this).1).trans this⟩

theorem room_none {F : Fence} (hd : F.depth = none) (k : Nat) : F.room k := fun d h => by rw [hd] at h; cases h
theorem yield_any {F : Fence} (hd : F.depth = none) {m : Nat} (m' : Nat) {P : Program} {l : Nat} {args : Array Value} {W : World} {R : Ending → World → Prop} (h : YieldAt F m P l args W R) : YieldAt F m' P l args W R := by
  obtain ⟨fn, tmps, assign, body, hy, hR⟩ := h
  exact ⟨fn, tmps, assign, body, hy, ⟨hR.1, fun c cs _ => hR.2 c cs (room_none hd _)⟩⟩

theorem box_cell {W : World} {B : Nat} {c : Array Value} {t : TypeId} {fr : Nat × Nat} (h : W.heap[B]? = some (.cells c t fr)) (i : Nat) : W.cell? ⟨B, i, none⟩ = c[i]? := by
  simp [World.cell?, h]

set_option maxRecDepth 100000 in
set_option maxHeartbeats 1000000 in
theorem visit_in (F : Fence) (hd : F.depth = none) (hf : ∀ f, F.fn f) (hro : F.round = none) (l n₀ : Nat) (W₀ : World) (N : Nat) (J Jx : List (Nd n₀ W₀) → World → Prop)
    (hJ : ∀ s W o, J s W → J s (W.alloc o)) (_hJx : ∀ s W o, Jx s W → Jx s (W.alloc o))
    (hY : ∀ m pre (x : Nd n₀ W₀) W, J pre W → pre.length < N → YieldAt F m Tryz.prog l x.encs W fun e W' =>
      (e = .returned (.bool true) ∧ J (pre ++ [x]) W' ∧ KT n₀ W W') ∨ (e = .returned (.bool false) ∧ Jx (pre ++ [x]) W')) (T : Tr) :
    ∀ (n : Nat) (d : Int) (v : Value) (pre : List (Nd n₀ W₀)) (W : World), IsT n₀ W₀ T v → Below n₀ W₀ W → n₀ ≤ W.heap.size → J pre W → 1 ≤ d → d + T.deep ≤ 1000000000 → pre.length + T.size ≤ N →
      CallsIn F n Tryz.prog 170 #[v, .int .i64 d, .func (.yield l) #[] #[]] W fun e W' =>
        (e = .returned (.bool true) ∧ ∃ ys : List (Nd n₀ W₀), ys.map Nd.fg = preT d T ∧ J (pre ++ ys) W' ∧ KT n₀ W W') ∨ (e = .returned (.bool false) ∧ ∃ q : List (Nd n₀ W₀), q.map Nd.fg <+: preT d T ∧ Jx (pre ++ q) W') := by
  induction T using Tr.ind with
  | h k nn s ts ih =>
    intro n d v pre W hT hBW hnW hJ0 hd0 hd1 hN
    have hT' := hT
    obtain ⟨a, c, rfl, _, _, _, hlc, hcm, hl⟩ := hT'.open
    have hdd : ∀ k : Nat, (F.depth.isSome = true → 1 ≤ k) := fun k h => by rw [hd] at h; cases h
    simp only [Tr.deep, Tr.size] at hd1 hN
    refine callsIn_of_wp Tryz.func170 rfl (hf _) ?_ hro
    simp only [Tryz.ntmps170, List.size_toArray, List.length_cons, List.length_nil, Nat.reduceAdd, Nat.reduceSub, Array.replicate_succ, Array.replicate_zero, List.push_toArray, List.append_toArray, List.nil_append, List.cons_append]
    have hx := hY (n - 1) pre ⟨(d, .node k nn s ts, _), hT, by unfold okD; omega⟩ (W.alloc (.cells #[.int .i64 k, .int .i64 nn, .string s, .slice a ts.length c] 31)) (hJ _ _ _ hJ0) (by omega)
    dsimp only [Nd.encs] at hx
    obtain ⟨fn, tmps, assign, body, hy, hR⟩ := hx
    gi_wp2_with fail
    refine hR.mono ?_
    rintro e W1 (⟨rfl, hJ1, hk1⟩ | ⟨rfl, hJx1⟩)
    · clear hR hy
      have hb1 := hk1.terms W.heap.size #[.int .i64 k, .int .i64 nn, .string s, .slice a ts.length c] (0, 0) (World.alloc_heap_new W _)
      have hc3 := box_cell hb1 3
      clear hb1
      simp only [List.getElem?_toArray, List.getElem?_cons_succ, List.getElem?_cons_zero] at hc3
      have IH := Lib.hid ih
      have hsz1 := hk1.below.size
      simp only [World.size_alloc] at hsz1
      have hkW : KT n₀ W W1 := ((KT.refl n₀ W).alloc hnW _).trans hk1
      clear ih hY hk1
      by_cases h0 : 0 < ts.length
      · obtain ⟨b, off, rfl, hb⟩ := hl.addr h0
        have hlen : ts.length ≤ 9223372036854775807 := by unfold maxLen at hcm; omega
        gi_wp2_with fail
        gi_loopw [17] (fun i wr => ∃ (j : Nat) (ys : List (Nd n₀ W₀)), j ≤ ts.length ∧ i = .int .i64 j ∧ ys.map Nd.fg = (d, .node k nn s ts) :: preL (d + 1) (ts.take j) ∧ J (pre ++ ys) wr ∧ KT n₀ W wr) (fun i _ => ts.length - (intOf i).toNat)
        case atStart => exact ⟨0, [⟨(d, .node k nn s ts, _), hT, by unfold okD; omega⟩], Nat.zero_le _, rfl, rfl, hJ1, hkW⟩
        case round =>
          obtain ⟨j, ys, hj, rfl, hys, hJj, hkj⟩ := hrel
          have Hys := Lib.hid hys
          clear hys
          by_cases hlt : j < ts.length
          · obtain ⟨tk, tn, tss, tl, ta, tc, te, c0, c1, c2, c3, ht⟩ := hl.node' hb (hBW.trans hkj.below) j hlt
            have hdj : ts[j].deep ≤ deepL ts := deep_mem (List.getElem_mem hlt)
            have hszj : sizeL (ts.take j) + ts[j].size ≤ sizeL ts := size_take j hlt
            have hyl : ys.length ≤ 1 + sizeL (ts.take j) := by
              have := congrArg List.length Hys.out
              simp [preL_length] at this
              omega
            have Te := Lib.hid te
            clear te
            have hbw : b < wr.heap.size := by have := hkj.below.size; omega
            have hnr : n₀ ≤ wr.heap.size := Nat.le_trans hnW hkj.below.size
            gi_wp2_with fail
            refine (IH.out _ (List.getElem_mem hlt) (n - 1) (d + 1) _ (pre ++ ys) _ ht ((hBW.trans hkj.below).trans (below_a1 hnr _)) (size_a1 hnr _) (hJ _ _ _ hJj) (by omega) (by omega) (by simp; omega)).mono ?_
            rintro e W2 (⟨rfl, zs, hzs, hJ2, hk2⟩ | ⟨rfl, q, hq, hx2⟩)
            · have Hzs := Lib.hid hzs
              clear hzs
              have hk3 := (hkj.alloc hnr (.cells #[.int .i64 tk, .int .i64 tn, .string tss, .slice ta tl.length tc] 31)).trans hk2
              clear hk2
              gi_wp2_with fail
              go_roundw
              case rel => exact ⟨j + 1, ys ++ zs, hlt, by go_num, by rw [List.map_append, Hys.out, Hzs.out, preL_take _ _ _ hlt]; simp, by rw [← List.append_assoc]; exact hJ2, hk3⟩
              case measure => simp [intOf]; omega
            · have Hq := Lib.hid hq
              clear hq
              gi_wp2_with fail
              go_ret
              refine .inr ⟨rfl, ys ++ q, ?_, by rw [← List.append_assoc]; exact hx2⟩
              rw [List.map_append, Hys.out]
              simp only [preT, List.cons_append]
              refine List.prefix_cons_inj _ |>.2 ?_
              refine List.IsPrefix.trans ?_ (preL_take_prefix (d + 1) ts (j + 1))
              rw [preL_take _ _ _ hlt]
              exact List.prefix_append_right_inj _ |>.2 Hq.out
          · gi_wp2_with fail
            go_ret
            refine .inl ⟨rfl, ys, ?_, hJj, hkj⟩
            rw [Hys.out, List.take_of_length_le (by omega)]
            simp [preT]
      · have e1 : ts = [] := List.length_eq_zero_iff.1 (by omega)
        subst e1
        clear IH h0
        simp only [List.length_nil] at hc3 ⊢
        gi_wp2_with fail
        gi_loopw [17] (fun i wr => i = .int .i64 0 ∧ J (pre ++ [⟨(d, .node k nn s [], _), hT, by unfold okD; omega⟩]) wr ∧ KT n₀ W wr) (fun i _ => 0)
        case atStart => exact ⟨rfl, hJ1, hkW⟩
        case round =>
          obtain ⟨rfl, hJj, hkj⟩ := hrel
          gi_wp2_with fail
          go_ret
          exact .inl ⟨rfl, [⟨(d, .node k nn s [], _), hT, by unfold okD; omega⟩], by unfold preT preL; rfl, hJj, hkj⟩
    · clear hR hy ih hY
      gi_wp2_with fail
      go_ret
      exact .inr ⟨rfl, [⟨(d, .node k nn s ts, _), hT, by unfold okD; omega⟩], ⟨preL (d + 1) ts, by unfold preT; rfl⟩, hJx1⟩

set_option maxHeartbeats 1000000 in
/-- The function that nodes hands back. -/
theorem nodes1_in (F : Fence) (hd : F.depth = none) (n : Nat) (hf : ∀ f, F.fn f) (hro : F.round = none) (l Bt n₀ : Nat) (W₀ : World) (T : Tr) (v : Value) (hT : IsT n₀ W₀ T v) (J Jx : List (Nd n₀ W₀) → World → Prop)
    (hJ : ∀ s W o, J s W → J s (W.alloc o)) (hJx : ∀ s W o, Jx s W → Jx s (W.alloc o)) (hdeep : T.deep ≤ 999999999)
    (hY : ∀ pre (x : Nd n₀ W₀) W, J pre W → pre.length < T.size → YieldAt F (n - 1) Tryz.prog l x.encs W fun e W' =>
      (e = .returned (.bool true) ∧ J (pre ++ [x]) W' ∧ KT n₀ W W') ∨ (e = .returned (.bool false) ∧ Jx (pre ++ [x]) W'))
    (W : World) (hBt : W.heap[Bt]? = some (.cells v.cells 31 (0, 0))) (hBW : Below n₀ W₀ W) (hnW : n₀ ≤ W.heap.size) (h0 : J [] W) :
    CallsIn F n Tryz.prog 169 #[.func (.yield l) #[] #[], .pointer (some ⟨Bt, 0, none⟩)] W fun e W' => (∃ v, e = .returned v) ∧
      ((∃ ys : List (Nd n₀ W₀), ys.map Nd.fg = preT 1 T ∧ J ys W') ∨ (∃ pre : List (Nd n₀ W₀), pre.map Nd.fg <+: preT 1 T ∧ Jx pre W')) := by
  cases T with
  | node k nn s ts =>
  have hT' := hT
  obtain ⟨a, c, rfl, _⟩ := hT'.open
  have hc0 := box_cell hBt 0
  have hc1 := box_cell hBt 1
  have hc2 := box_cell hBt 2
  have hc3 := box_cell hBt 3
  clear hBt
  simp only [Value.cells, List.getElem?_toArray, List.getElem?_cons_succ, List.getElem?_cons_zero] at hc0 hc1 hc2 hc3
  have hdd : ∀ k : Nat, (F.depth.isSome = true → 1 ≤ k) := fun k h => by rw [hd] at h; cases h
  have hp := visit_in F hd hf hro l n₀ W₀ (Tr.node k nn s ts).size J Jx hJ hJx (fun m pre x W hj hl => yield_any hd m (hY pre x W hj hl)) (.node k nn s ts) (n - 1) 1 _ [] W hT hBW hnW h0 (by omega) (by omega) (by simp)
  refine callsIn_of_wp Tryz.func169 rfl (hf _) ?_ hro
  simp only [Tryz.ntmps169, List.size_toArray, List.length_cons, List.length_nil, Nat.reduceAdd, Nat.reduceSub, Array.replicate_succ, Array.replicate_zero, List.push_toArray, List.append_toArray, List.nil_append, List.cons_append]
  gi_wp2_with fail
  refine hp.mono ?_
  clear hp
  rintro e W1 (⟨rfl, ys, hys, hJ1, _⟩ | ⟨rfl, q, hq, hx⟩)
  · have Hys := Lib.hid hys
    clear hys
    gi_wp2_with fail
    go_end0
    exact ⟨⟨_, rfl⟩, .inl ⟨_, Hys.out, by simpa using hJ1⟩⟩
  · have Hq := Lib.hid hq
    clear hq
    gi_wp2_with fail
    go_end0
    exact ⟨⟨_, rfl⟩, .inr ⟨_, Hq.out, by simpa using hx⟩⟩

set_option maxHeartbeats 1000000 in
/-- nodes(t): t in a box; the function captures the box. -/
theorem nodes_any (v : Value) (k nn : Int) (s : ByteArray) (a : Option Addr) (len c : Nat) (hv : v = .agg #[.int .i64 k, .int .i64 nn, .string s, .slice a len c]) (w : World) :
    Calls Tryz.prog 120 #[v] w fun e w' => e = .returned (.func (.func 169) #[] #[.pointer (some ⟨w.heap.size, 0, none⟩)]) ∧ w' = w.alloc (.cells v.cells 31) := by
  subst hv
  go_enter Tryz.func120, Tryz.ntmps120
  go_wp2_with fail
  go_ret
  exact ⟨rfl, rfl⟩

/-- nodes(t) hands back a function over which can be ranged: all nodes in order; or the first ones. -/
theorem nodes_stops (F : Fence) (hd : F.depth = none) (n : Nat) (hf : ∀ f, F.fn f) (hro : F.round = none) (Bt n₀ : Nat) (T : Tr) (v : Value) (W₀ w : World) (hBt : w.heap[Bt]? = some (.cells v.cells 31 (0, 0))) (hBW : Below n₀ W₀ w) (hn₀ : n₀ ≤ w.heap.size)
    (hT : IsT n₀ W₀ T v) (hdeep : T.deep ≤ 999999999) :
    SeqStopsK F n Tryz.prog 169 #[.pointer (some ⟨Bt, 0, none⟩)] (Nd.encs (n₀ := n₀) (W₀ := W₀)) (KT n₀) (fun ys => ys.map Nd.fg = preT 1 T) (fun pre => pre.map Nd.fg <+: preT 1 T) T.size w := fun l J Jx W hW hJ hJx hY h0 =>
  nodes1_in F hd n hf hro l Bt n₀ W₀ T v hT J Jx (fun s W o h => hJ s W _ none h (World.grownBy_alloc W o none) (fun r e => by cases e)) (fun s W o h => hJx s W _ none h (World.grownBy_alloc W o none) (fun r e => by cases e)) hdeep hY W
    ((hW.block Bt (Array.getElem?_eq_some_iff.1 hBt).1).trans hBt) (hBW.trans (hW.mono hn₀)) (Nat.le_trans hn₀ hW.size) h0

theorem KT.bookkeeping {n₀ : Nat} {w : World} (hn : n₀ ≤ w.heap.size) (W : World) (l : Nat) (o o' : Obj) (hl : w.heap.size ≤ l) (h : W.heap[l]? = some o) (ho : o.isCells = false) (hk : o.isWalk = false) : KT n₀ W (W.putObj l o') :=
  ⟨belowK_b hn W l o o' hl h ho hk, fun k c fr hc => by
    rw [World.putObj_heap_other (fun e => by subst e; rw [h] at hc; cases hc; cases ho)]
    exact hc⟩
end Go.Proofs.YthfciekhmbfmfaaGreatDoor

namespace Go.Proofs.YthfciekhmbfmfaaGreatDoor
open Go.RowKit Go Go.Shelf

attribute [local go_sem] Oper.semAt_some
attribute [local go_sem] monoUpon Yld.says

/-- The greatest of the first numbers; 0, if there is none. -/
def topD (l : List (Int × Tr)) : Int := l.foldl (fun m x => max m x.1) 0
theorem topD_snoc (l : List (Int × Tr)) (x : Int × Tr) : topD (l ++ [x]) = max (topD l) x.1 := by simp [topD]

theorem foldl_max (l : List (Int × Tr)) : ∀ m : Int, l.foldl (fun m x => max m x.1) m = max m (l.foldl (fun m x => max m x.1) m) := by
  induction l with
  | nil => intro m; simp
  | cons x xs ih => intro m; simp only [List.foldl_cons]; rw [ih (max m x.1)]; omega
mutual
theorem foldl_preT : ∀ (T : Tr) (d m : Int), 0 ≤ d → (preT d T).foldl (fun m x => max m x.1) m = max m (d + T.deep - 1)
  | .node k n s l, d, m, hd => by
    simp only [preT, List.foldl_cons, Tr.deep]
    rw [foldl_preL l (d + 1) (max m d) (by omega)]
    cases l with
    | nil => simp [deepL]
    | cons t ts =>
      have : 1 ≤ t.deep := by cases t; simp [Tr.deep]
      simp only [deepL, List.cons_ne_nil, if_false]
      omega
theorem foldl_preL : ∀ (l : List Tr) (d m : Int), 0 ≤ d → (preL d l).foldl (fun m x => max m x.1) m = if l = [] then m else max m (d + deepL l - 1)
  | [], d, m, hd => by simp [preL]
  | t :: ts, d, m, hd => by
    simp only [preL, List.foldl_append, deepL, List.cons_ne_nil, if_false]
    rw [foldl_preT t d m hd, foldl_preL ts d _ hd]
    cases ts with
    | nil => simp [deepL]
    | cons u us => simp only [List.cons_ne_nil, if_false]; omega
end
theorem topD_preT (T : Tr) : topD (preT 1 T) = T.deep := by
  unfold topD
  rw [foldl_preT T 1 0 (by omega)]
  have : 1 ≤ T.deep := by cases T; simp [Tr.deep]
  omega

theorem KT.setBox {n₀ B : Nat} {A W : World} {t : TypeId} {v : Value} (h : KT n₀ A W) (hb : Boxed W B t v) (ht : t ≠ 31) (hn : n₀ ≤ B) (u : Value) : KT n₀ A (W.setCell ⟨B, 0, none⟩ u) :=
  ⟨h.below.setCell (p := ⟨B, 0, none⟩) hn u, fun k c fr hk => by
    have h1 := h.terms k c fr hk
    by_cases e : k = B
    · subst e
      have h2 : W.heap[k]? = some (.cells #[v] t (0, 0)) := hb
      rw [h1] at h2
      cases h2
      exact absurd rfl ht
    · exact (Below.heap_setCell W ⟨B, 0, none⟩ u k e).trans h1⟩

theorem callsIn_of_calls {F : Fence} (hF : Fence.wide = F) {n : Nat} {P : Program} {f : FuncId} {args : Array Value} {w : World} {R : Ending → World → Prop} (h : Calls P f args w R) : CallsIn F n P f args w R := by
  subst hF; exact callsIn_wide.2 h

theorem boxed_at {W : World} {B : Nat} {t : TypeId} {v : Value} (h : W.heap.size = B) : Boxed (W.alloc (.cells #[v] t)) B t v := by subst h; exact Boxed.new _ _ _
theorem block_at {W : World} {B : Nat} {o : Obj} (h : W.heap.size = B) : (W.alloc o).heap[B]? = some o := by subst h; exact World.alloc_heap_new _ _

/-- A range over nodes(t). -/
theorem range_nodes {F : Fence} {n : Nat} (hd : F.depth = none) (hf : ∀ f, F.fn f) (hro : F.round = none) (h1 : 1 ≤ n) {g : Operand} {ps : Array Tmp} {assign body : Code} {Q : Exit → Act → World → Prop} {a : Act} {w : World}
    (Bt n₀ : Nat) (T : Tr) (v : Value) (W₀ : World) (hg : a.eval g = .func (.func 169) #[] #[.pointer (some ⟨Bt, 0, none⟩)]) (hBt : w.heap[Bt]? = some (.cells v.cells 31 (0, 0))) (hBW : Below n₀ W₀ w) (hn₀ : n₀ ≤ w.heap.size)
    (hT : IsT n₀ W₀ T v) (hdeep : T.deep ≤ 999999999) (hps : ps.size = 2)
    (I : List (Nd n₀ W₀) → World → Prop) (Ix : Code → List (Nd n₀ W₀) → World → Prop) (hI : OwnFrom w.heap.size I) (hIx : ∀ c, OwnFrom w.heap.size (Ix c)) (h0 : I [] w)
    (h : ∃ a₁ : Nd n₀ W₀ → Act, (∀ (l : Nat) (x : Nd n₀ W₀) (W : World) (K : Act → World → Prop), K (a₁ x) W →
        assign.wpIn (F.inRound l) (n - 1 - 1) Tryz.prog (Exit.then K (fun _ _ _ => False)) { tmps := (ps.zip x.encs).foldl (fun t (p, v) => t.setIfInBounds p v) a.tmps, defers := [] } W) ∧
      (∀ (l : Nat) (pre : List (Nd n₀ W₀)) (x : Nd n₀ W₀) (W : World), I pre W → pre.length < T.size → body.wpIn (F.inRound l) (n - 1 - 1) Tryz.prog (ownPostG w.heap.size (KT n₀) I Ix (pre ++ [x]) W) (a₁ x) W) ∧
      (∀ (D : Nat) (xs : List (Nd n₀ W₀)) (W : World), w.heap.size ≤ D → xs.map Nd.fg = preT 1 T → I xs W → W.heap[D]? = some (.deferred (some [])) → Q .normal { a with defers := { target := .collected D, args := #[] } :: a.defers } W) ∧
      (∀ (D : Nat) (c : Code) (pre : List (Nd n₀ W₀)) (W : World), w.heap.size ≤ D → pre.map Nd.fg <+: preT 1 T → Ix c pre W → W.heap[D]? = some (.deferred (some [])) → c.wpIn F n Tryz.prog Q { a with defers := { target := .collected D, args := #[] } :: a.defers } W)) :
    (Code.rangeFunc g ps assign body).wpIn F n Tryz.prog Q a w := by
  obtain ⟨a₁, hA, hB, hD, hS⟩ := h
  exact wpIn_rangeFunc_ownG hro h1 (gf := 169) (lb := #[.pointer (some ⟨Bt, 0, none⟩)]) hg (hf _) (enters_of Tryz.func169 (by kernel_rfl) rfl)
    (nodes_stops F hd (n - 1) hf hro Bt n₀ T v W₀ w hBt hBW hn₀ hT hdeep) KT.trans (KT.bookkeeping hn₀) (Below.refl _ _) (fun x => by rw [hps]; rfl) I Ix hI hIx h0 a₁ hA hB hD hS

end Go.Proofs.YthfciekhmbfmfaaGreatDoor

namespace Go.Proofs.YthfciekhmbfmfaaGreatDoor
open Go.RowKit Go

def byteB (c : UInt8) : Bool := decide (32 ≤ c.toNat) && decide (c.toNat ≤ 126)
def nameB (s : ByteArray) : Bool := decide (1 ≤ s.size) && decide (s.size ≤ 32) && s.data.toList.all byteB

def nodeB (k n : Int) (s : ByteArray) (len : Nat) : Bool :=
  if k = 1 then decide (0 ≤ n) && decide (n < 100000) && decide (s.toList = []) && decide (len = 0)
  else if k = 2 then decide (-2147483647 ≤ n) && decide (n ≤ 2147483647) && decide (s.toList = []) && decide (len = 0)
  else if k = 3 then decide (n = 0) && nameB s && decide (len = 0)
  else if k = 4 then decide (n = 0) && decide (s.size ≤ 255) && decide (len = 0)
  else if k = 5 then decide (n = 0) && nameB s && decide (1 ≤ len) && decide (len ≤ 16)
  else if k = 6 then decide (n = 0) && decide (s.toList = []) && decide (len ≤ 64)
  else false

theorem fits_any (n d : Int) (w : World) : Calls Tryz.prog 200 #[.agg #[.int .i64 n, .int .i64 d]] w fun e w' => e = .returned (.bool (decide (n ≤ 4000) && decide (d ≤ 600))) ∧ Below w.heap.size w w' := by
  go_enter Tryz.func200, Tryz.ntmps200
  go_wp2_with fail
  all_goals
    go_ret
    refine ⟨retB ?_, below_box1 _ _⟩
    simp [*]
    try omega

theorem all_take_succ (l : List UInt8) (k : Nat) (h : k < l.length) : (l.take (k + 1)).all byteB = ((l.take k).all byteB && byteB l[k]) := by
  rw [List.take_succ_eq_append_getElem h, List.all_append]; simp
theorem all_false {l : List UInt8} {k : Nat} (h : k < l.length) (hb : byteB l[k] = false) : l.all byteB = false := by
  rw [List.all_eq_false]
  exact ⟨l[k], List.getElem_mem h, by simp [hb]⟩

set_option maxHeartbeats 1000000 in
theorem isName_any (s : ByteArray) (hs : s.size ≤ maxLen) (w : World) : Calls Tryz.prog 218 #[.string s] w fun e w' => e = .returned (.bool (nameB s)) ∧ w' = w := by
  unfold maxLen at hs
  by_cases h1 : 1 ≤ s.size
  · by_cases h2 : s.size ≤ 32
    · have hn : Hid (nameB s = s.data.toList.all byteB) := by simp [Hid, nameB, h1, h2]
      go_enter Tryz.func218, Tryz.ntmps218
      go_wp2_with fail
      go_loop [14] (fun i => ∃ k : Nat, k ≤ s.size ∧ i = .int .i64 k ∧ (s.data.toList.take k).all byteB = true) (fun i => s.size - (intOf i).toNat)
      case atStart => exact ⟨0, Nat.zero_le _, rfl, rfl⟩
      case round =>
        obtain ⟨k, hk, rfl, hall⟩ := hrel
        have Hall := Lib.hid hall
        clear hall
        by_cases hlt : k < s.size
        · have hl : k < s.data.toList.length := by simpa using hlt
          have hg : Hid (s.data.toList[k] = s[k]) := by simp [Hid]; rfl
          cases hb : byteB s[k] with
          | true =>
            have ha : Hid ((s.data.toList.take (k + 1)).all byteB = true) := by
              simp only [Hid]
              rw [all_take_succ _ _ hl, Hall.out, hg.out, hb]; rfl
            have hb1 : 32 ≤ (s[k].toNat : Int) ∧ (s[k].toNat : Int) ≤ 126 := by
              simp [byteB] at hb; omega
            obtain ⟨hb1, hb2⟩ := hb1
            clear hb
            go_wp2_with fail
            go_round
            case rel => exact ⟨k + 1, by omega, by go_num, ha.out⟩
            case measure => simp [intOf]; omega
          | false =>
            have ha : Hid (nameB s = false) := by
              simp only [Hid]
              rw [hn.out]
              exact all_false hl (by rw [hg.out, hb])
            have hb1 : (s[k].toNat : Int) < 32 ∨ 126 < (s[k].toNat : Int) := by
              simp [byteB] at hb; omega
            clear hb
            go_wp2_with fail
            all_goals
              go_ret
              exact ⟨retB ha.out, rfl⟩
        · go_wp2_with fail
          go_ret
          refine ⟨retB ?_, rfl⟩
          rw [hn.out]
          have := Hall.out
          rwa [List.take_of_length_le (by simp; omega)] at this
    · have hn : Hid (nameB s = false) := by simp [Hid, nameB, h2]
      go_enter Tryz.func218, Tryz.ntmps218
      go_wp2_with fail
      go_ret
      exact ⟨retB hn.out, rfl⟩
  · have hn : Hid (nameB s = false) := by simp [Hid, nameB, h1]
    go_enter Tryz.func218, Tryz.ntmps218
    go_wp2_with fail
    go_ret
    exact ⟨retB hn.out, rfl⟩

set_option maxHeartbeats 2000000 in
theorem isNode_any (k n : Int) (s : ByteArray) (len : Nat) (a : Option Addr) (c : Nat) (w : World) (hm : len ≤ maxLen) (hs : s.size ≤ maxLen) :
    Calls Tryz.prog 201 #[.agg #[.int .i64 k, .int .i64 n, .string s, .slice a len c]] w fun e w' => e = .returned (.bool (nodeB k n s len)) ∧ Below w.heap.size w w' := by
  have hN := fun W => isName_any s hs W
  have HN := Lib.hid hN
  clear hN
  unfold maxLen at hm hs
  by_cases h1 : k = 1
  · subst h1
    go_enter Tryz.func201, Tryz.ntmps201
    go_wp2_with fail
    all_goals
      go_ret
      refine ⟨retB ?_, below_box1 _ _⟩
      rw [Bool.eq_iff_iff]
      simp [nodeB, *]
      try omega
  have h1' : (k == 1) = false := by simpa using h1
  have H1 := Lib.hid h1
  clear h1
  by_cases h2 : k = 2
  · subst h2
    go_enter Tryz.func201, Tryz.ntmps201
    go_wp2_with fail
    all_goals
      go_ret
      refine ⟨retB ?_, below_box1 _ _⟩
      rw [Bool.eq_iff_iff]
      simp [nodeB, *]
      try omega
  have h2' : (k == 2) = false := by simpa using h2
  have H2 := Lib.hid h2
  clear h2
  by_cases h3 : k = 3
  · subst h3
    go_enter Tryz.func201, Tryz.ntmps201
    go_wp2_with (go_at_call 218; refine (HN.out _).mono ?_; rintro e w' ⟨rfl, rfl⟩)
    all_goals
      go_ret
      refine ⟨retB ?_, below_box1 _ _⟩
      rw [Bool.eq_iff_iff]
      simp [nodeB, *]
      try omega
  have h3' : (k == 3) = false := by simpa using h3
  have H3 := Lib.hid h3
  clear h3
  by_cases h4 : k = 4
  · subst h4
    go_enter Tryz.func201, Tryz.ntmps201
    go_wp2_with fail
    all_goals
      go_ret
      refine ⟨retB ?_, below_box1 _ _⟩
      rw [Bool.eq_iff_iff]
      simp [nodeB, *]
      try omega
  have h4' : (k == 4) = false := by simpa using h4
  have H4 := Lib.hid h4
  clear h4
  by_cases h5 : k = 5
  · subst h5
    go_enter Tryz.func201, Tryz.ntmps201
    go_wp2_with (go_at_call 218; refine (HN.out _).mono ?_; rintro e w' ⟨rfl, rfl⟩)
    all_goals
      go_ret
      refine ⟨retB ?_, below_box1 _ _⟩
      rw [Bool.eq_iff_iff]
      simp [nodeB, *]
      try omega
  have h5' : (k == 5) = false := by simpa using h5
  have H5 := Lib.hid h5
  clear h5
  by_cases h6 : k = 6
  · subst h6
    go_enter Tryz.func201, Tryz.ntmps201
    go_wp2_with fail
    all_goals
      go_ret
      refine ⟨retB ?_, below_box1 _ _⟩
      rw [Bool.eq_iff_iff]
      simp [nodeB, *]
      try omega
  have h6' : (k == 6) = false := by simpa using h6
  have hn : Hid (nodeB k n s len = false) := by simp [Hid, nodeB, H1.out, H2.out, H3.out, H4.out, H5.out, h6]
  clear h6
  go_enter Tryz.func201, Tryz.ntmps201
  go_wp2_with fail
  go_ret
  exact ⟨retB hn.out, below_box1 _ _⟩
end Go.Proofs.YthfciekhmbfmfaaGreatDoor
