import Derived.RangeFuncNested
import Derived.RangeFuncBound
import Derived.RangeFuncCalls
import Derived.RangeFuncLeaves
import Derived.Shelf.Abstract
import Derived.Shelf.RegionOpen
import Derived.OwnWalkIn
import Derived.TacticsInMore
import Derived.LoopNIn
import Derived.LoopIn
import Derived.Test.YtdigiaigbcfccaaGreatDoorTr
namespace Go.Proofs.YtdigiaigbcfccaaGreatDoor
open Go.RowKit Go Go.Shelf

attribute [local go_sem] Oper.semAt_some

mutual
/-- The nodes in the order of their places, with how deep each lies. -/
def preT (d : Int) : Tr → List (Int × Tr)
  | .node k n s l => (d, .node k n s l) :: preL (d + 1) l
def preL (d : Int) : List Tr → List (Int × Tr)
  | [] => []
  | t :: ts => preT d t ++ preL d ts
end

mutual
def Tr.size : Tr → Nat
  | .node _ _ _ l => 1 + sizeL l
def sizeL : List Tr → Nat
  | [] => 0
  | t :: ts => t.size + sizeL ts
end

mutual
def Tr.deep : Tr → Nat
  | .node _ _ _ l => 1 + deepL l
def deepL : List Tr → Nat
  | [] => 0
  | t :: ts => max t.deep (deepL ts)
end

theorem preL_append (d : Int) (l l' : List Tr) : preL d (l ++ l') = preL d l ++ preL d l' := by
  induction l with
  | nil => simp [preL]
  | cons t ts ih => simp [preL, ih]
theorem preL_take (d : Int) (l : List Tr) (i : Nat) (h : i < l.length) : preL d (l.take (i + 1)) = preL d (l.take i) ++ preT d l[i] := by
  rw [List.take_succ_eq_append_getElem h, preL_append]
  simp [preL]
mutual
theorem preT_length (d : Int) : ∀ T : Tr, (preT d T).length = T.size
  | .node _ _ _ l => by simp [preT, Tr.size, preL_length (d + 1) l]; omega
theorem preL_length (d : Int) : ∀ l : List Tr, (preL d l).length = sizeL l
  | [] => rfl
  | t :: ts => by simp [preL, sizeL, preT_length d t, preL_length d ts]
end
theorem sizeL_append (l l' : List Tr) : sizeL (l ++ l') = sizeL l + sizeL l' := by
  induction l with
  | nil => simp [sizeL]
  | cons t ts ih => simp [sizeL, ih]; omega
theorem deep_mem {t : Tr} : ∀ {l : List Tr}, t ∈ l → t.deep ≤ deepL l
  | x :: xs, h => by
    rcases List.mem_cons.1 h with rfl | h
    · simp [deepL]; omega
    · have := deep_mem h; simp [deepL]; omega
theorem size_take {l : List Tr} (i : Nat) (h : i < l.length) : sizeL (l.take i) + l[i].size ≤ sizeL l := by
  have e : l = l.take i ++ l[i] :: l.drop (i + 1) := by simp
  have : sizeL l = sizeL (l.take i) + (l[i].size + sizeL (l.drop (i + 1))) := by
    conv => lhs; rw [e]
    rw [sizeL_append]; simp [sizeL]
  omega
theorem preL_take_prefix (d : Int) (l : List Tr) (i : Nat) : preL d (l.take i) <+: preL d l := by
  have e : l = l.take i ++ l.drop i := by simp
  conv => rhs; rw [e]
  rw [preL_append]
  exact List.prefix_append _ _

/-- A node that is handed to a round: how deep, the tree, its value. -/

def okD (d : Int) : Prop := 1 ≤ d ∧ d ≤ 1000000000
abbrev Nd (n₀ : Nat) (W₀ : World) : Type := { x : Int × Tr × Value // IsT n₀ W₀ x.2.1 x.2.2 ∧ okD x.1 }
def Nd.encs {n₀ : Nat} {W₀ : World} (x : Nd n₀ W₀) : Array Value := #[.int .i64 x.1.1, x.1.2.2]
def Nd.fg {n₀ : Nat} {W₀ : World} (x : Nd n₀ W₀) : Int × Tr := (x.1.1, x.1.2.1)

/-- What a round keeps: all below n₀; and every block of terms. -/
structure KT (n₀ : Nat) (A B : World) : Prop where
  below : Below n₀ A B
  terms : ∀ (k : Nat) (c : Array Value) (fr : Nat × Nat), A.heap[k]? = some (Obj.cells c 24 fr) → B.heap[k]? = some (Obj.cells c 24 fr)
theorem KT.refl (n₀ : Nat) (A : World) : KT n₀ A A := ⟨Below.refl _ _, fun _ _ _ h => h⟩
theorem KT.trans {n₀ : Nat} {A B C : World} (h : KT n₀ A B) (k : KT n₀ B C) : KT n₀ A C := ⟨h.below.trans k.below, fun i c fr hi => k.terms i c fr (h.terms i c fr hi)⟩
theorem KT.alloc {n₀ : Nat} {A B : World} (h : KT n₀ A B) (hn : n₀ ≤ B.heap.size) (o : Obj) : KT n₀ A (B.alloc o) :=
  ⟨h.below.alloc hn o, fun k c fr hk => by
    have := h.terms k c fr hk
    exact (Below.heap_alloc B o k (Array.getElem?_eq_some_iff.1 this).1).trans this⟩

theorem room_none {F : Fence} (hd : F.depth = none) (k : Nat) : F.room k := fun d h => by rw [hd] at h; cases h
theorem yield_any {F : Fence} (hd : F.depth = none) {m : Nat} (m' : Nat) {P : Program} {l : Nat} {args : Array Value} {W : World} {R : Ending → World → Prop} (h : YieldAt F m P l args W R) : YieldAt F m' P l args W R := by
  obtain ⟨fn, tmps, assign, body, hy, hR⟩ := h
  exact ⟨fn, tmps, assign, body, hy, ⟨hR.1, fun c cs _ => hR.2 c cs (room_none hd _)⟩⟩

theorem box_cell {W : World} {B : Nat} {c : Array Value} {t : TypeId} {fr : Nat × Nat} (h : W.heap[B]? = some (.cells c t fr)) (i : Nat) : W.cell? ⟨B, i, none⟩ = c[i]? := by
  simp [World.cell?, h]

set_option maxRecDepth 100000 in
set_option maxHeartbeats 1000000 in
theorem visit_in (F : Fence) (hd : F.depth = none) (hf : ∀ f, F.fn f) (hro : F.round = none) (l n₀ : Nat) (W₀ : World) (N : Nat) (J Jx : List (Nd n₀ W₀) → World → Prop)
    (hJ : ∀ s W o, J s W → J s (W.alloc o)) (_hJx : ∀ s W o, Jx s W → Jx s (W.alloc o))
    (hY : ∀ m pre (x : Nd n₀ W₀) W, J pre W → pre.length < N → YieldAt F m Tryz.prog l x.encs W fun e W' =>
      (e = .returned (.bool true) ∧ J (pre ++ [x]) W' ∧ KT n₀ W W') ∨ (e = .returned (.bool false) ∧ Jx (pre ++ [x]) W')) (T : Tr) :
    ∀ (n : Nat) (d : Int) (v : Value) (pre : List (Nd n₀ W₀)) (W : World), IsT n₀ W₀ T v → Below n₀ W₀ W → n₀ ≤ W.heap.size → J pre W → 1 ≤ d → d + T.deep ≤ 1000000000 → pre.length + T.size ≤ N →
      CallsIn F n Tryz.prog 69 #[v, .int .i64 d, .func (.yield l) #[] #[]] W fun e W' =>
        (e = .returned (.bool true) ∧ ∃ ys : List (Nd n₀ W₀), ys.map Nd.fg = preT d T ∧ J (pre ++ ys) W' ∧ KT n₀ W W') ∨ (e = .returned (.bool false) ∧ ∃ q : List (Nd n₀ W₀), q.map Nd.fg <+: preT d T ∧ Jx (pre ++ q) W') := by
  induction T using Tr.ind with
  | h k nn s ts ih =>
    intro n d v pre W hT hBW hnW hJ0 hd0 hd1 hN
    have hT' := hT
    obtain ⟨a, c, rfl, _, _, _, hlc, hcm, hl⟩ := hT'.open
    have hdd : ∀ k : Nat, (F.depth.isSome = true → 1 ≤ k) := fun k h => by rw [hd] at h; cases h
    simp only [Tr.deep, Tr.size] at hd1 hN
    refine callsIn_of_wp Tryz.func69 rfl (hf _) ?_ hro
    simp only [Tryz.ntmps69, List.size_toArray, List.length_cons, List.length_nil, Nat.reduceAdd, Nat.reduceSub, Array.replicate_succ, Array.replicate_zero, List.push_toArray, List.append_toArray, List.nil_append, List.cons_append]
    have hx := hY (n - 1) pre ⟨(d, .node k nn s ts, _), hT, by unfold okD; omega⟩ (W.alloc (.cells #[.int .i64 k, .int .i64 nn, .string s, .slice a ts.length c] 24)) (hJ _ _ _ hJ0) (by omega)
    dsimp only [Nd.encs] at hx
    obtain ⟨fn, tmps, assign, body, hy, hR⟩ := hx
    gi_wp2_with fail
    refine hR.mono ?_
    rintro e W1 (⟨rfl, hJ1, hk1⟩ | ⟨rfl, hJx1⟩)
    · clear hR hy
      have hb1 := hk1.terms W.heap.size #[.int .i64 k, .int .i64 nn, .string s, .slice a ts.length c] (0, 0) (World.alloc_heap_new W _)
      have hc3 := box_cell hb1 3
      clear hb1
      simp only [List.getElem?_toArray, List.getElem?_cons_succ, List.getElem?_cons_zero] at hc3
      have IH := Lib.hid ih
      have hsz1 := hk1.below.size
      simp only [World.size_alloc] at hsz1
      have hkW : KT n₀ W W1 := ((KT.refl n₀ W).alloc hnW _).trans hk1
      clear ih hY hk1
      by_cases h0 : 0 < ts.length
      · obtain ⟨b, off, rfl, hb⟩ := hl.addr h0
        have hlen : ts.length ≤ 9223372036854775807 := by unfold maxLen at hcm; omega
        gi_wp2_with fail
        gi_loopw [17] (fun i wr => ∃ (j : Nat) (ys : List (Nd n₀ W₀)), j ≤ ts.length ∧ i = .int .i64 j ∧ ys.map Nd.fg = (d, .node k nn s ts) :: preL (d + 1) (ts.take j) ∧ J (pre ++ ys) wr ∧ KT n₀ W wr) (fun i _ => ts.length - (intOf i).toNat)
        case atStart => exact ⟨0, [⟨(d, .node k nn s ts, _), hT, by unfold okD; omega⟩], Nat.zero_le _, rfl, rfl, hJ1, hkW⟩
        case round =>
          obtain ⟨j, ys, hj, rfl, hys, hJj, hkj⟩ := hrel
          have Hys := Lib.hid hys
          clear hys
          by_cases hlt : j < ts.length
          · obtain ⟨tk, tn, tss, tl, ta, tc, te, c0, c1, c2, c3, ht⟩ := hl.node' hb (hBW.trans hkj.below) j hlt
            have hdj : ts[j].deep ≤ deepL ts := deep_mem (List.getElem_mem hlt)
            have hszj : sizeL (ts.take j) + ts[j].size ≤ sizeL ts := size_take j hlt
            have hyl : ys.length ≤ 1 + sizeL (ts.take j) := by
              have := congrArg List.length Hys.out
              simp [preL_length] at this
              omega
            have Te := Lib.hid te
            clear te
            have hbw : b < wr.heap.size := by have := hkj.below.size; omega
            have hnr : n₀ ≤ wr.heap.size := Nat.le_trans hnW hkj.below.size
            gi_wp2_with fail
            refine (IH.out _ (List.getElem_mem hlt) (n - 1) (d + 1) _ (pre ++ ys) _ ht ((hBW.trans hkj.below).trans (below_a1 hnr _)) (size_a1 hnr _) (hJ _ _ _ hJj) (by omega) (by omega) (by simp; omega)).mono ?_
            rintro e W2 (⟨rfl, zs, hzs, hJ2, hk2⟩ | ⟨rfl, q, hq, hx2⟩)
            · have Hzs := Lib.hid hzs
              clear hzs
              have hk3 := (hkj.alloc hnr (.cells #[.int .i64 tk, .int .i64 tn, .string tss, .slice ta tl.length tc] 24)).trans hk2
              clear hk2
              gi_wp2_with fail
              go_roundw
              case rel => exact ⟨j + 1, ys ++ zs, hlt, by go_num, by rw [List.map_append, Hys.out, Hzs.out, preL_take _ _ _ hlt]; simp, by rw [← List.append_assoc]; exact hJ2, hk3⟩
              case measure => simp [intOf]; omega
            · have Hq := Lib.hid hq
              clear hq
              gi_wp2_with fail
              go_ret
              refine .inr ⟨rfl, ys ++ q, ?_, by rw [← List.append_assoc]; exact hx2⟩
              rw [List.map_append, Hys.out]
              simp only [preT, List.cons_append]
              refine List.prefix_cons_inj _ |>.2 ?_
              refine List.IsPrefix.trans ?_ (preL_take_prefix (d + 1) ts (j + 1))
              rw [preL_take _ _ _ hlt]
              exact List.prefix_append_right_inj _ |>.2 Hq.out
          · gi_wp2_with fail
            go_ret
            refine .inl ⟨rfl, ys, ?_, hJj, hkj⟩
            rw [Hys.out, List.take_of_length_le (by omega)]
            simp [preT]
      · have e1 : ts = [] := List.length_eq_zero_iff.1 (by omega)
        subst e1
        clear IH h0
        simp only [List.length_nil] at hc3 ⊢
        gi_wp2_with fail
        gi_loopw [17] (fun i wr => i = .int .i64 0 ∧ J (pre ++ [⟨(d, .node k nn s [], _), hT, by unfold okD; omega⟩]) wr ∧ KT n₀ W wr) (fun i _ => 0)
        case atStart => exact ⟨rfl, hJ1, hkW⟩
        case round =>
          obtain ⟨rfl, hJj, hkj⟩ := hrel
          gi_wp2_with fail
          go_ret
          exact .inl ⟨rfl, [⟨(d, .node k nn s [], _), hT, by unfold okD; omega⟩], by unfold preT preL; rfl, hJj, hkj⟩
    · clear hR hy ih hY
      gi_wp2_with fail
      go_ret
      exact .inr ⟨rfl, [⟨(d, .node k nn s ts, _), hT, by unfold okD; omega⟩], ⟨preL (d + 1) ts, by unfold preT; rfl⟩, hJx1⟩

set_option maxHeartbeats 1000000 in
/-- The function that nodes hands back. -/
theorem nodes1_in (F : Fence) (hd : F.depth = none) (n : Nat) (hf : ∀ f, F.fn f) (hro : F.round = none) (l Bt n₀ : Nat) (W₀ : World) (T : Tr) (v : Value) (hT : IsT n₀ W₀ T v) (J Jx : List (Nd n₀ W₀) → World → Prop)
    (hJ : ∀ s W o, J s W → J s (W.alloc o)) (hJx : ∀ s W o, Jx s W → Jx s (W.alloc o)) (hdeep : T.deep ≤ 999999999)
    (hY : ∀ pre (x : Nd n₀ W₀) W, J pre W → pre.length < T.size → YieldAt F (n - 1) Tryz.prog l x.encs W fun e W' =>
      (e = .returned (.bool true) ∧ J (pre ++ [x]) W' ∧ KT n₀ W W') ∨ (e = .returned (.bool false) ∧ Jx (pre ++ [x]) W'))
    (W : World) (hBt : W.heap[Bt]? = some (.cells v.cells 24 (0, 0))) (hBW : Below n₀ W₀ W) (hnW : n₀ ≤ W.heap.size) (h0 : J [] W) :
    CallsIn F n Tryz.prog 68 #[.func (.yield l) #[] #[], .pointer (some ⟨Bt, 0, none⟩)] W fun e W' => (∃ v, e = .returned v) ∧
      ((∃ ys : List (Nd n₀ W₀), ys.map Nd.fg = preT 1 T ∧ J ys W') ∨ (∃ pre : List (Nd n₀ W₀), pre.map Nd.fg <+: preT 1 T ∧ Jx pre W')) := by
  cases T with
  | node k nn s ts =>
  have hT' := hT
  obtain ⟨a, c, rfl, _⟩ := hT'.open
  have hc0 := box_cell hBt 0
  have hc1 := box_cell hBt 1
  have hc2 := box_cell hBt 2
  have hc3 := box_cell hBt 3
  clear hBt
  simp only [Value.cells, List.getElem?_toArray, List.getElem?_cons_succ, List.getElem?_cons_zero] at hc0 hc1 hc2 hc3
  have hdd : ∀ k : Nat, (F.depth.isSome = true → 1 ≤ k) := fun k h => by rw [hd] at h; cases h
  have hp := visit_in F hd hf hro l n₀ W₀ (Tr.node k nn s ts).size J Jx hJ hJx (fun m pre x W hj hl => yield_any hd m (hY pre x W hj hl)) (.node k nn s ts) (n - 1) 1 _ [] W hT hBW hnW h0 (by omega) (by omega) (by simp)
  refine callsIn_of_wp Tryz.func68 rfl (hf _) ?_ hro
  simp only [Tryz.ntmps68, List.size_toArray, List.length_cons, List.length_nil, Nat.reduceAdd, Nat.reduceSub, Array.replicate_succ, Array.replicate_zero, List.push_toArray, List.append_toArray, List.nil_append, List.cons_append]
  gi_wp2_with fail
  refine hp.mono ?_
  clear hp
  rintro e W1 (⟨rfl, ys, hys, hJ1, _⟩ | ⟨rfl, q, hq, hx⟩)
  · have Hys := Lib.hid hys
    clear hys
    gi_wp2_with fail
    go_end0
    exact ⟨⟨_, rfl⟩, .inl ⟨_, Hys.out, by simpa using hJ1⟩⟩
  · have Hq := Lib.hid hq
    clear hq
    gi_wp2_with fail
    go_end0
    exact ⟨⟨_, rfl⟩, .inr ⟨_, Hq.out, by simpa using hx⟩⟩

set_option maxHeartbeats 1000000 in
/-- nodes(t): t in a box; the function captures the box. -/
theorem nodes_any (v : Value) (k nn : Int) (s : ByteArray) (a : Option Addr) (len c : Nat) (hv : v = .agg #[.int .i64 k, .int .i64 nn, .string s, .slice a len c]) (w : World) :
    Calls Tryz.prog 37 #[v] w fun e w' => e = .returned (.func (.func 68) #[] #[.pointer (some ⟨w.heap.size, 0, none⟩)]) ∧ w' = w.alloc (.cells v.cells 24) := by
  subst hv
  go_enter Tryz.func37, Tryz.ntmps37
  go_wp2_with fail
  go_ret
  exact ⟨rfl, rfl⟩

/-- nodes(t) hands back a function over which can be ranged: all nodes in order; or the first ones. -/
theorem nodes_stops (F : Fence) (hd : F.depth = none) (n : Nat) (hf : ∀ f, F.fn f) (hro : F.round = none) (Bt n₀ : Nat) (T : Tr) (v : Value) (W₀ w : World) (hBt : w.heap[Bt]? = some (.cells v.cells 24 (0, 0))) (hBW : Below n₀ W₀ w) (hn₀ : n₀ ≤ w.heap.size)
    (hT : IsT n₀ W₀ T v) (hdeep : T.deep ≤ 999999999) :
    SeqStopsK F n Tryz.prog 68 #[.pointer (some ⟨Bt, 0, none⟩)] (Nd.encs (n₀ := n₀) (W₀ := W₀)) (KT n₀) (fun ys => ys.map Nd.fg = preT 1 T) (fun pre => pre.map Nd.fg <+: preT 1 T) T.size w := fun l J Jx W hW hJ hJx hY h0 =>
  nodes1_in F hd n hf hro l Bt n₀ W₀ T v hT J Jx (fun s W o h => hJ s W _ none h (World.grownBy_alloc W o none) (fun r e => by cases e)) (fun s W o h => hJx s W _ none h (World.grownBy_alloc W o none) (fun r e => by cases e)) hdeep hY W
    ((hW.block Bt (Array.getElem?_eq_some_iff.1 hBt).1).trans hBt) (hBW.trans (hW.mono hn₀)) (Nat.le_trans hn₀ hW.size) h0

theorem KT.bookkeeping {n₀ : Nat} {w : World} (hn : n₀ ≤ w.heap.size) (W : World) (l : Nat) (o o' : Obj) (hl : w.heap.size ≤ l) (h : W.heap[l]? = some o) (ho : o.isCells = false) (hk : o.isWalk = false) : KT n₀ W (W.putObj l o') :=
  ⟨belowK_b hn W l o o' hl h ho hk, fun k c fr hc => by
    rw [World.putObj_heap_other (fun e => by subst e; rw [h] at hc; cases hc; cases ho)]
    exact hc⟩
end Go.Proofs.YtdigiaigbcfccaaGreatDoor
