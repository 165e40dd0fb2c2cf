import Derived.OwnWalk
import Derived.OwnWalkIn
import Derived.RangeFuncBox
import Derived.Test.YtdigiaigbcfccaaGreatDoorMatch
namespace Go.Proofs.YtdigiaigbcfccaaGreatDoor
open Go.RowKit Go

theorem infoInt : (Tryz.prog.info? 3).map (fun i => (i.zero, i.size, i.bytes)) = some (some (.int .i64 0), 1, 8) := by kernel_rfl
def ints (ns : List Int) : List Value := ns.map (Value.int .i64)
/-- The place behind the place ns, of a node that lies d deep. -/
def nextP (ns : List Int) (d : Nat) : List Int :=
  if ns.length < d - 1 then ns ++ [0] else if 1 < d then ns.take (d - 2) ++ [ns.getD (d - 2) 0 + 1] else []

/-- v is a slice of its own, in a block from base on, with these numbers. -/
def Nums (base : Nat) (W : World) (v : Value) (ns : List Int) : Prop := W.ownsRow base 3 1 v ns.length (ints ns)
theorem Nums.open {base : Nat} {W : World} {v : Value} {ns : List Int} (h : Nums base W v ns) : (v = .slice none 0 0 ∧ ns = []) ∨ ∃ g cap cur, v = .slice (some ⟨g, 0, none⟩) ns.length cap ∧ base ≤ g ∧ Box W g cur 3 ∧ ns.length ≤ cap ∧ cap ≤ maxLen ∧ cur.size = cap ∧ cur.toList.take ns.length = ints ns := by
  rcases h.2 with ⟨rfl, h0⟩ | ⟨g, cap, cur, rfl, h1, h2, h3, h4, h5, h6⟩
  · exact .inl ⟨rfl, List.length_eq_zero_iff.1 h0⟩
  · exact .inr ⟨g, cap, cur, rfl, h1, h2, h3, h4, by simpa using h5, by simpa using h6⟩
theorem Nums.mk {base : Nat} {W : World} {g cap : Nat} {cur : Array Value} {ns : List Int} (h1 : base ≤ g) (h2 : Box W g cur 3) (h3 : ns.length ≤ cap) (h4 : cap ≤ maxLen) (h5 : cur.size = cap) (h6 : cur.toList.take ns.length = ints ns) : Nums base W (.slice (some ⟨g, 0, none⟩) ns.length cap) ns :=
  ⟨by simp [ints], .inr ⟨g, cap, cur, rfl, h1, h2, h3, h4, by simpa using h5, by simpa using h6⟩⟩

section
variable {P : Program} {w : World}
/-- Where a slice that owns its row lies behind an append: where it lay, or in a new block. -/
theorem append_where (t ty e : TypeId) (i : TypeInfo) (z : Value) (size bytes : Nat) (ht : P.underlying t = some (.slice e)) (hi : P.info? e = some i) (hz : i.zero = some z)
    (hsize : i.size = size) (hby : i.bytes = bytes) (hzs : z.cells.size = size) (hsz : 0 < size) (base : Nat) (v : Value) (n : Nat) (xs : List Value) (hown : w.ownsRow base e size v n xs)
    (a : Addr) (m c : Nat) (news : List Value) (hl : news.length = m * size) (hnews : ∀ j u, news[j]? = some u → w.cell? (a.add j) = some u) (h1 : ∀ u ∈ news, u.oneCell' = true) (h63 : n + m ≤ maxLen) (hbytes : (n + m) * bytes ≤ 140737488355328)
    (v' : Value) (w' : World) (hr : (Builtin.append_ #[t, t] ty #[v, .slice (some a) m c]).run P w = .ok v' w') (b : Nat) (hb : v'.ownBlock = some b) : v.ownBlock = some b ∨ w.heap.size ≤ b := by
  rcases hown.2 with ⟨rfl, rfl⟩ | ⟨g, cap, cur, rfl, hbg, hg, hnc, hcm, hcs, htake⟩
  · have hx : xs = [] := List.eq_nil_of_length_eq_zero (by simpa using hown.1)
    subst hx
    obtain ⟨v2, w2, hr2, hown2, _, _⟩ := run_append_own (P := P) w w.heap.size t ty e i z size bytes ht hi hz hsize hby hzs hsz _ 0 [] (World.ownsRow_nil w _ e size) a m c news hl hnews h1 h63 hbytes (Nat.le_refl _)
    rw [hr] at hr2
    cases hr2
    exact .inr (hown2.lt b hb).1
  · subst hsize hby
    by_cases hroom : n + m ≤ cap
    · have hfit : n * i.size + news.length ≤ cur.size := by rw [hl, hcs, ← Nat.add_mul]; exact Nat.mul_le_mul_right _ hroom
      rw [run_append_room (P := P) w t ty e i ht hi g n cap cur hg a m c news hl hnews h1 hroom hfit] at hr
      cases hr
      exact .inl hb
    · rw [run_append_grow (P := P) w t ty e i z ht hi hz ⟨g, 0, none⟩ n cap xs hown.1 (hown.cells (g := g) rfl) a m c news hl hnews (by omega) (by unfold maxLen at h63; omega) (growslice_fits (by omega) hbytes)] at hr
      cases hr
      simp [Value.ownBlock] at hb
      exact .inr (by omega)

theorem wpList_append_where {ops : Array Oper} {rest : List Oper} {o : Oper} {a : Act} {Q : Exit → Act → World → Prop} (hgd : o.guard = none) (s x : Operand) (t : TypeId)
    (ho : o.op = .call { callee := .builtin .append, args := #[s, x], argTypes := #[t, t] })
    (base : Nat) (e : TypeId) (i : TypeInfo) (z : Value) (size bytes : Nat) (ht : P.underlying t = some (.slice e)) (hi : P.info? e = some i) (hz : i.zero = some z)
    (hsize : i.size = size) (hby : i.bytes = bytes) (hzs : z.cells.size = size) (hsz : 0 < size)
    (v : Value) (n : Nat) (xs : List Value) (hs : a.eval s = v) (hown : w.ownsRow base e size v n xs)
    (ad : Addr) (m c : Nat) (news : List Value) (hx : a.eval x = .slice (some ad) m c) (hl : news.length = m * size) (hnews : ∀ j u, news[j]? = some u → w.cell? (ad.add j) = some u) (h1 : ∀ u ∈ news, u.oneCell' = true)
    (h63 : n + m ≤ maxLen) (hbytes : (n + m) * bytes ≤ 140737488355328) (hbase : base ≤ w.heap.size)
    (h : ∀ v' w', w'.ownsRow base e size v' (n + m) (xs ++ news) → w.grownBy w' v.ownBlock → (∀ b, v'.ownBlock = some b → v.ownBlock = some b ∨ w.heap.size ≤ b) → wpList P ops Q rest (a.put o.dst v') w') : wpList P ops Q (o :: rest) a w :=
  wpList_plain hgd fun K hK => by
    obtain ⟨v', w', hr, h2, h3, _⟩ := run_append_own (P := P) w base t o.type e i z size bytes ht hi hz hsize hby hzs hsz v n xs hown ad m c news hl hnews h1 h63 hbytes hbase
    have h4 := append_where t o.type e i z size bytes ht hi hz hsize hby hzs hsz base v n xs hown ad m c news hl hnews h1 h63 hbytes v' w' hr
    unfold Oper.wp execOp
    simp only [ho, resolve, invoke, builtin, Sem.run_bind, Sem.run_pure, Result.andThen_ok, List.map_toArray, List.map_cons, List.map_nil, hs, hx, hr]
    exact hK _ _ (h v' w' h2 h3 h4)
end

def NextPost (base : Nat) (v : Value) (ns : List Int) (d : Nat) (w : World) (e : Ending) (w' : World) : Prop := ∃ v', e = .returned v' ∧ Nums base w' v' (nextP ns d) ∧ w.grownBy w' v.ownBlock ∧ ∀ b, v'.ownBlock = some b → v.ownBlock = some b ∨ w.heap.size ≤ b

theorem take_get {cur : Array Value} {ns : List Int} {i : Nat} (h : cur.toList.take ns.length = ints ns) (hi : i < ns.length) : cur[i]? = some (.int .i64 (ns.getD i 0)) := by
  have h1 : (cur.toList.take ns.length)[i]? = (ints ns)[i]? := by rw [h]
  rw [List.getElem?_take_of_lt hi] at h1
  simp [ints] at h1
  rw [h1]
  simp [List.getD, List.getElem?_eq_getElem hi]

theorem nums_bump {base : Nat} {w : World} {g cap : Nat} {cur : Array Value} {ns : List Int} (hg1 : base ≤ g) (hg2 : Box w g cur 3) (hg4 : cap ≤ maxLen) (hg5 : cur.size = cap) (hg6 : cur.toList.take ns.length = ints ns) (hg3 : ns.length ≤ cap) {j : Nat} (hj : j < ns.length) (y : Int) :
    Nums base (w.setCell ⟨g, j, none⟩ (.int .i64 y)) (.slice (some ⟨g, 0, none⟩) (j + 1) cap) (ns.take j ++ [y]) := by
  have hlen : (ns.take j ++ [y]).length = j + 1 := by simp; omega
  have h := Nums.mk (cur := cur.setIfInBounds j (.int .i64 y)) (ns := ns.take j ++ [y]) hg1 (hg2.set j (.int .i64 y)) (by omega) hg4 (by simpa using hg5) (by
    have hjc : j < cur.toList.length := by simp; omega
    rw [hlen, Array.toList_setIfInBounds, List.take_succ_eq_append_getElem (by simpa using hjc)]
    have e1 : cur.toList.take j = ints (ns.take j) := by
      have := congrArg (List.take j) hg6
      rw [List.take_take, Nat.min_eq_left (Nat.le_of_lt hj)] at this
      rw [this]; simp [ints, List.map_take]
    simp only [List.getElem_set_self]
    rw [List.take_set_of_le (Nat.le_refl _), e1]
    simp [ints])
  rw [hlen] at h
  exact h

set_option maxRecDepth 100000 in
set_option maxHeartbeats 1000000 in
theorem nextPlace_any (base : Nat) (ns : List Int) (d : Nat) (v : Value) (w : World) (hv : Nums base w v ns) (hb : base ≤ w.heap.size) (hd1 : 1 ≤ d) (hd2 : d ≤ 1000000000) (hl : ns.length ≤ 1000000000) (hok : ∀ x, x ∈ ns → 0 ≤ x ∧ x ≤ 1000000000) :
    Calls Tryz.prog 78 #[v, .int .i64 d] w (NextPost base v ns d w) := by
  obtain ⟨i0, hi, hz0, hz1, hz2⟩ := info_parts infoInt
  have Hv := Lib.hid hv
  have hw : IntKind.i64.wrap ((d : Int) - 1) = (d : Int) - 1 := by rw [IntKind.wrap_i64]; omega
  by_cases h1 : ns.length < d - 1
  · have hP : nextP ns d = ns ++ [0] := by rw [nextP, if_pos h1]
    have HP := Lib.hid hP
    clear hP hok
    obtain ⟨len, cap, a, hve, hlen⟩ : ∃ (len cap : Nat) (a : Option Addr), v = .slice a len cap ∧ len = ns.length := by
      rcases hv.open with ⟨rfl, rfl⟩ | ⟨g, cap, cur, rfl, _⟩
      · exact ⟨0, 0, none, rfl, rfl⟩
      · exact ⟨_, cap, _, rfl, rfl⟩
    subst hve
    clear hv
    go_enter Tryz.func78, Tryz.ntmps78
    go_wp2_with (at_builtin; refine wpList_append_where rfl _ _ 30 rfl base 3 i0 (.int .i64 0) 1 8 Tryz.underlying30 hi hz0 hz1 hz2 rfl (by decide) _ _ _ rfl (World.ownsRow.alloc Hv.out _) ⟨w.heap.size, 0, none⟩ 1 1 [.int .i64 0] rfl rfl (cell_one_new _ _ _) (fun x hx => by simp at hx; subst hx; rfl) (by unfold maxLen; omega) (by omega) (by simp; omega) ?_)
    intro v' w1 hown hgrow hwh
    go_wp2_with fail
    go_ret
    refine ⟨_, rfl, ?_, ?_, fun b hb' => ?_⟩
    · rw [HP.out]
      simpa [Nums, ints] using hown
    · exact ⟨hgrow.os, hgrow.tape, hgrow.output, by have := hgrow.size; simp at this; omega, fun k hk hne => (hgrow.block k (by simp; omega) (by cases a <;> exact hne)).trans (Below.heap_alloc w _ k hk)⟩
    · rcases hwh b hb' with h | h
      · exact .inl (by cases a <;> exact h)
      · exact .inr (by have := World.size_alloc w (.cells #[Value.int .i64 0] 3); omega)
  · by_cases h2 : 1 < d
    · obtain ⟨j, rfl⟩ : ∃ j, d = j + 2 := ⟨d - 2, by omega⟩
      have hj : j < ns.length := by omega
      have hP : nextP ns (j + 2) = ns.take j ++ [ns.getD j 0 + 1] := by rw [nextP, if_neg (by omega), if_pos h2]; rfl
      have HP := Lib.hid hP
      clear hP
      rcases hv.open with ⟨_, rfl⟩ | ⟨g, cap, cur, rfl, hg1, hg2, hg3, hg4, hg5, hg6⟩
      · simp at hj
      have hx := take_get hg6 hj
      have hok := hok (ns.getD j 0) (by rw [List.getD, List.getElem?_eq_getElem hj]; exact List.getElem_mem hj)
      have hc := (hg2.cell j).trans hx
      have hfz := hg2.frozen j
      have hw2 : IntKind.i64.wrap (ns.getD j 0 + 1) = ns.getD j 0 + 1 := by rw [IntKind.wrap_i64]; omega
      have Hg6 := Lib.hid hg6
      have hgl := hg2.lt
      clear hv hg6
      generalize ns.getD j 0 = x at *
      have e1 : ((j + 2 : Nat) : Int) - 1 = (j : Int) + 1 := by omega
      rw [e1] at hw
      have e2 : IntKind.i64.wrap ((j : Int) + 1 - 1) = j := by rw [IntKind.wrap_i64]; omega
      go_enter Tryz.func78, Tryz.ntmps78
      go_wp2_with fail
      go_ret
      have hn := nums_bump (base := base) (w := w) (cap := cap) hg1 hg2 hg4 hg5 Hg6.out (by omega) hj (x + 1)
      refine ⟨_, rfl, ?_, grown_set g j w _, fun b hb' => .inl hb'⟩
      rw [HP.out]
      simpa [show j + 2 - 1 = j + 1 by omega, Nat.min_eq_left (Nat.le_of_lt hj)] using hn
    · have hP : nextP ns d = [] := by rw [nextP, if_neg h1, if_neg h2]
      have HP := Lib.hid hP
      clear hP hok
      obtain rfl : d = 1 := by omega
      rcases hv.open with ⟨rfl, rfl⟩ | ⟨g, cap, cur, rfl, hg1, hg2, hg3, hg4, hg5, hg6⟩
      · clear hv
        go_enter Tryz.func78, Tryz.ntmps78
        go_wp2_with fail
        go_ret
        refine ⟨_, rfl, ?_, ⟨rfl, rfl, rfl, Nat.le_refl _, fun _ _ _ => rfl⟩, fun b hb' => .inl hb'⟩
        rw [HP.out]
        exact World.ownsRow_nil _ _ _ _
      · clear hv
        go_enter Tryz.func78, Tryz.ntmps78
        go_wp2_with fail
        go_ret
        refine ⟨_, rfl, ?_, ⟨rfl, rfl, rfl, Nat.le_refl _, fun _ _ _ => rfl⟩, fun b hb' => .inl hb'⟩
        rw [HP.out]
        exact Nums.mk (ns := []) hg1 hg2 (Nat.zero_le _) hg4 hg5 rfl
end Go.Proofs.YtdigiaigbcfccaaGreatDoor

/- Ranges over an iterator that writes memory of its own. No program is named here. -/
namespace Go.Proofs.YtdigiaigbcfccaaGreatDoor
open Go.RowKit Go

/-- J p speaks of no block of p (these are the iterator's), and of no object at or beyond B but cells. -/
def Shut {β : Type} (B : Nat) (J : (Nat → Prop) → β → World → Prop) : Prop :=
  ∀ (p p' : Nat → Prop) (s : β) (W W' : World) (row : Option Nat), J p s W → W.grownBy W' row → (∀ r, row = some r → p r ∨ (B ≤ r ∧ ∃ o : Obj, W.heap[r]? = some o ∧ o.isCells = false)) →
    (∀ b, p' b → p b ∨ (W.heap.size ≤ b ∧ b < W'.heap.size)) → J p' s W'
theorem Shut.put {β : Type} {B : Nat} {J : (Nat → Prop) → β → World → Prop} (h : Shut B J) {p : Nat → Prop} {s : β} {W : World} {l : Nat} {o : Obj} (o' : Obj) (hs : J p s W) (hB : B ≤ l) (hl : W.heap[l]? = some o) (ho : o.isCells = false) : J p s (W.putObj l o') :=
  h p p s W _ (some l) hs (grownBy_putObj' W l o') (fun r e => by cases e; exact .inr ⟨hB, o, hl, ho⟩) (fun _ hb => .inl hb)
theorem Shut.lay {β : Type} {B : Nat} {J : (Nat → Prop) → β → World → Prop} (h : Shut B J) {p : Nat → Prop} {s : β} {W : World} (o : Obj) (hs : J p s W) : J p s (W.alloc o) :=
  h p p s W _ none hs (World.grownBy_alloc W o none) (fun r e => by cases e) (fun _ hb => .inl hb)

/-- What a round keeps: all below n₀, every block of terms, and the iterator's own blocks. -/
def KP (n₀ : Nat) (p : Nat → Prop) (A B : World) : Prop := KT n₀ A B ∧ ∀ b, p b → b < A.heap.size → B.heap[b]? = A.heap[b]?
theorem KP.trans {n₀ : Nat} {p : Nat → Prop} {A B C : World} (h : KP n₀ p A B) (k : KP n₀ p B C) : KP n₀ p A C :=
  ⟨h.1.trans k.1, fun b hb hA => (k.2 b hb (Nat.lt_of_lt_of_le hA h.1.below.size)).trans (h.2 b hb hA)⟩

theorem kf_up {B C : Nat} {X Y : World} (h : KeepsFrom B X Y) (hc : B ≤ C) : KeepsFrom C X Y := ⟨h.size, fun k o hk => h.same k o (Nat.le_trans hc hk)⟩
theorem kf_put {B l : Nat} {X : World} (o : Obj) (h : l < B) : KeepsFrom B X (X.putObj l o) := KeepsFrom.of_grownBy (grownBy_putObj' X l o) (fun j e => by cases e; exact h)

/-- The contract of an iterator with memory of its own. -/
def SeqPriv {α : Type} (F : Fence) (n : Nat) (P : Program) (g : Nat) (lb : Array Value) (encs : α → Array Value) (V : (Nat → Prop) → α → World → Prop) (n₀ : Nat) (S Sp : List α → Prop) (N : Nat) (w : World) : Prop :=
  ∀ (l : Nat) (J Jx : (Nat → Prop) → List α → World → Prop) (W : World), Below w.heap.size w W → Shut W.heap.size J → Shut W.heap.size Jx →
    (∀ p pre x W1, J p pre W1 → V p x W1 → pre.length < N → YieldAt F (n - 1) P l (encs x) W1 fun e W' => KeepsFrom W.heap.size W1 W' ∧
      ((e = .returned (.bool true) ∧ J p (pre ++ [x]) W' ∧ KP n₀ p W1 W') ∨ (e = .returned (.bool false) ∧ Jx p (pre ++ [x]) W'))) →
    J (fun _ => False) [] W →
    CallsIn F n P g (#[.func (.yield l) #[] #[]] ++ lb) W fun e W' => (∃ v, e = .returned v) ∧ ((∃ p xs, S xs ∧ J p xs W') ∨ (∃ p pre, Sp pre ∧ Jx p pre W'))

set_option maxHeartbeats 1000000 in
theorem wpIn_rangeFunc_priv {F : Fence} {n : Nat} {P : Program} {α : Type} {g : Operand} {ps : Array Tmp} {assign body : Code} {Q : Exit → Act → World → Prop} {a : Act} {w : World}
    (hro : F.round = none) (h1 : 1 ≤ n) {gf : Nat} {lb : Array Value} (hg : a.eval g = .func (.func gf) #[] lb) (hFg : F.fn gf) (eg : ∀ args w, (callFunc gf args).run P w = .ok (.enter gf args) w)
    {encs : α → Array Value} {V : (Nat → Prop) → α → World → Prop} {n₀ : Nat} {S Sp : List α → Prop} {N : Nat} {w0 : World} (hseq : SeqPriv F (n - 1) P gf lb encs V n₀ S Sp N w0) (hb0 : Below w0.heap.size w0 w) (hn₀ : n₀ ≤ w.heap.size)
    (hps : ∀ x, (encs x).size = ps.size) (hV : ∀ p x W l o o', V p x W → ¬ p l → W.heap[l]? = some o → o.isCells = false → V p x (W.putObj l o'))
    (I : (Nat → Prop) → List α → World → Prop) (Ix : Code → (Nat → Prop) → List α → World → Prop) (hI : Shut w.heap.size I) (hIx : ∀ c, Shut w.heap.size (Ix c)) (h0 : I (fun _ => False) [] w)
    (A : α → Act → World → Prop) (hA : ∀ x a' W l o o', A x a' W → W.heap[l]? = some o → o.isCells = false → A x a' (W.putObj l o'))
    (hassign : ∀ (l : Nat) (p : Nat → Prop) (pre : List α) (x : α) (W : World) (K : Act → World → Prop), I p pre W → V p x W → w.heap.size ≤ W.heap.size → (∀ b, p b → w.heap.size ≤ b ∧ b < W.heap.size) →
      (∀ a' W', KeepsFrom w.heap.size W W' → KP n₀ p W W' → I p pre W' → V p x W' → A x a' W' → K a' W') →
      assign.wpIn (F.inRound l) (n - 1 - 1) P (Exit.then K (fun _ _ _ => False)) { tmps := (ps.zip (encs x)).foldl (fun t (p, v) => t.setIfInBounds p v) a.tmps, defers := [] } W)
    (hbody : ∀ (l : Nat) (p : Nat → Prop) (pre : List α) (x : α) (a' : Act) (W : World), I p pre W → V p x W → A x a' W → w.heap.size ≤ W.heap.size → (∀ b, p b → w.heap.size ≤ b ∧ b < W.heap.size) → pre.length < N →
      body.wpIn (F.inRound l) (n - 1 - 1) P (ownPostG w.heap.size (KP n₀ p) (I p) (fun c => Ix c p) (pre ++ [x]) W) a' W)
    (hdone : ∀ (D : Nat) (p : Nat → Prop) (xs : List α) (W : World), w.heap.size ≤ D → ¬ p D → S xs → I p xs W → W.heap[D]? = some (.deferred (some [])) → Q .normal { a with defers := { target := .collected D, args := #[] } :: a.defers } W)
    (hstop : ∀ (D : Nat) (c : Code) (p : Nat → Prop) (pre : List α) (W : World), w.heap.size ≤ D → ¬ p D → Sp pre → Ix c p pre W → W.heap[D]? = some (.deferred (some [])) → c.wpIn F n P Q { a with defers := { target := .collected D, args := #[] } :: a.defers } W) :
    (Code.rangeFunc g ps assign body).wpIn F n P Q a w := by
  refine wpIn_rangeFunc fun fn hfn => ?_
  rw [hro]
  let L : LoopState → Option Code → Obj := fun st pe => .loop { state := st, pending := pe, fn, tmps := a.tmps, params := ps, assign, body, defers := w.heap.size }
  let w2 := (w.alloc (.deferred (some []))).alloc (L .ready none)
  have s2 : w2.heap.size = w.heap.size + 2 := by simp [w2]
  have hB2 : Below w.heap.size w w2 := below_a2 (Nat.le_refl _) _ _
  have hl2 : w2.heap[w.heap.size + 1]? = some (L .ready none) := by
    have := World.alloc_heap_new (w.alloc (.deferred (some []))) (L .ready none)
    rwa [World.size_alloc] at this
  have hd2 : w2.heap[w.heap.size]? = some (.deferred (some [])) := (Below.heap_alloc (w.alloc (.deferred (some []))) _ _ (by simp)).trans (World.alloc_heap_new w _)
  -- what is known between two rounds of the two blocks that are laid here
  let G : Obj → (Nat → Prop) → World → Prop := fun o p W => w2.heap.size ≤ W.heap.size ∧ (∀ b, p b → w2.heap.size ≤ b ∧ b < W.heap.size) ∧ W.heap[w.heap.size + 1]? = some o ∧ W.heap[w.heap.size]? = some (.deferred (some []))
  have hG : ∀ {o : Obj} {p p' : Nat → Prop} {W W' : World} {row : Option Nat}, G o p W → W.grownBy W' row → (∀ r, row = some r → p r ∨ (w2.heap.size ≤ r ∧ ∃ o : Obj, W.heap[r]? = some o ∧ o.isCells = false)) → (∀ b, p' b → p b ∨ (W.heap.size ≤ b ∧ b < W'.heap.size)) → G o p' W' := by
    rintro o p p' W W' row ⟨g1, g2, g3, g4⟩ hg hr hp
    have hne : ∀ k, k < w2.heap.size → some k ≠ row := fun k hk e => by
      rcases hr k e.symm with h | h
      · have := (g2 k h).1; omega
      · omega
    refine ⟨Nat.le_trans g1 hg.size, fun b hb => ?_, (hg.block _ (by omega) (hne _ (by omega))).trans g3, (hg.block _ (by omega) (hne _ (by omega))).trans g4⟩
    have := hg.size
    rcases hp b hb with h | h
    · have := g2 b h; omega
    · omega
  have hmine : ∀ {p : Nat → Prop} {o : Obj} {W : World}, G o p W → ¬ p (w.heap.size + 1) ∧ ¬ p w.heap.size := fun hg => ⟨fun h => by have := (hg.2.1 _ h).1; omega, fun h => by have := (hg.2.1 _ h).1; omega⟩
  have hKb : ∀ {p : Nat → Prop} {o : Obj} {W : World} (st : LoopState) (pe : Option Code) (o' : Obj), o = L st pe → G o p W → KP n₀ p W (W.putObj (w.heap.size + 1) o') := fun st pe o' ho hg => by
    subst ho
    exact ⟨KT.bookkeeping hn₀ _ _ _ o' (by omega) hg.2.2.1 rfl rfl, fun b hb _ => World.putObj_heap_other (fun e => (hmine hg).1 (e ▸ hb))⟩
  have hput : ∀ {p : Nat → Prop} {o : Obj} {W : World} (o' : Obj), G o p W → G o' p (W.putObj (w.heap.size + 1) o') := fun o' hg => by
    have hlt := hg.1
    exact ⟨by simpa using hg.1, by simpa using hg.2.1, World.putObj_heap_same (by omega), (World.putObj_heap_other (by omega)).trans hg.2.2.2⟩
  refine ⟨w.heap.size + 1, [{ target := .collected w.heap.size, args := #[] }], w2, { target := .fn (.func gf) lb, args := #[.func (.yield (w.heap.size + 1)) #[] #[]] }, w2, gf, #[.func (.yield (w.heap.size + 1)) #[] #[]] ++ lb, w2,
    run_enterLoop_outer _ _ _ _ _, ?_, ?_, ?_, fun _ => h1, ?_⟩
  · simp only [resolve, hg]
    simp [go_sem]
  · intro f' hf'; simp [Target.leads] at hf'; subst hf'; exact hFg
  · simp [invoke, go_sem, eg]
  refine (hseq (w.heap.size + 1) (fun p pre W => I p pre W ∧ G (L .ready none) p W) (fun p pre W => ∃ c, Ix c p pre W ∧ G (L .done (some c)) p W) w2 (hb0.trans (hB2.mono hb0.size)) ?_ ?_ ?_ ?_).mono ?_
  · intro p p' s W W' row hs hg' hr hp
    exact ⟨hI p p' s W W' row hs.1 hg' (fun r e => (hr r e).imp id (fun h => ⟨by omega, h.2⟩)) hp, hG hs.2 hg' hr hp⟩
  · rintro p p' s W W' row ⟨c, hs1, hs2⟩ hg' hr hp
    exact ⟨c, hIx c p p' s W W' row hs1 hg' (fun r e => (hr r e).imp id (fun h => ⟨by omega, h.2⟩)) hp, hG hs2 hg' hr hp⟩
  · rintro p pre x W ⟨hi, hgd⟩ hv hlen
    have hpb : ∀ {o : Obj} {W : World}, G o p W → w.heap.size ≤ W.heap.size ∧ ∀ b, p b → w.heap.size ≤ b ∧ b < W.heap.size := fun h => ⟨by have := h.1; omega, fun b hb => by have := h.2.1 b hb; omega⟩
    refine ⟨fn, _, assign, body, run_yield hgd.2.2.1 (hps x), roundIn_of_wpIn hfn (hassign _ p pre x W _ hi hv (hpb hgd).1 (hpb hgd).2 fun a' W1 hk1 hkp1 hi1 hv1 ha1 => ?_)⟩
    have hg1 : G (L .ready none) p W1 := ⟨Nat.le_trans hgd.1 hk1.size, fun b hb => ⟨(hgd.2.1 b hb).1, Nat.lt_of_lt_of_le (hgd.2.1 b hb).2 hk1.size⟩, hk1.same _ _ (by omega) hgd.2.2.1 rfl, hk1.same _ _ (Nat.le_refl _) hgd.2.2.2 rfl⟩
    refine ⟨_, run_beginRound hg1.2.2.1 rfl, ?_⟩
    have hgb : G (L .busy none) p (W1.putObj (w.heap.size + 1) (L .busy none)) := hput _ hg1
    have hkp2 := hkp1.trans (hKb .ready none (L .busy none) rfl hg1)
    refine wpIn_mono (hbody _ p pre x a' (W1.putObj (w.heap.size + 1) (L .busy none)) (hI.put _ hi1 (by omega) hg1.2.2.1 rfl) (hV p x W1 _ _ _ hv1 (hmine hg1).1 hg1.2.2.1 rfl) (hA x a' W1 _ _ _ ha1 hg1.2.2.1 rfl) (hpb hgb).1 (hpb hgb).2 hlen) ?_
    have hfin : ∀ W3, KeepsFrom w.heap.size (W1.putObj (w.heap.size + 1) (L .busy none)) W3 → G (L .busy none) p W3 := fun W3 hk =>
      ⟨Nat.le_trans hgb.1 hk.size, fun b hb => ⟨(hgb.2.1 b hb).1, Nat.lt_of_lt_of_le (hgb.2.1 b hb).2 hk.size⟩, hk.same _ _ (by omega) hgb.2.2.1 rfl, hk.same _ _ (Nat.le_refl _) hgb.2.2.2 rfl⟩
    have hkf : ∀ (W3 : World) (o : Obj), KeepsFrom w.heap.size (W1.putObj (w.heap.size + 1) (L .busy none)) W3 → KeepsFrom w2.heap.size W (W3.putObj (w.heap.size + 1) o) := fun W3 o hk =>
      (((kf_up hk1 (by omega)).trans (kf_put _ (by omega))).trans (kf_up hk (by omega))).trans (kf_put o (by omega))
    have hjump : ∀ (c : Code) (W3 : World), KeepsFrom w.heap.size (W1.putObj (w.heap.size + 1) (L .busy none)) W3 → Ix c p (pre ++ [x]) W3 →
        ∃ v w', (Instr.endRound (w.heap.size + 1) (some c)).run P W3 = .ok v w' ∧ KeepsFrom w2.heap.size W w' ∧ ((Ending.returned v = .returned (.bool true) ∧ (I p (pre ++ [x]) w' ∧ G (L .ready none) p w') ∧ KP n₀ p W w') ∨ (Ending.returned v = .returned (.bool false) ∧ ∃ c, Ix c p (pre ++ [x]) w' ∧ G (L .done (some c)) p w')) := fun c W3 hk hx => by
      have hg3 := hfin W3 hk
      exact ⟨_, _, run_endRound (some c) hg3.2.2.1, hkf W3 _ hk, .inr ⟨rfl, c, (hIx c).put _ hx (by omega) hg3.2.2.1 rfl, hput _ hg3⟩⟩
    rintro e a3 W3 hp
    cases e with
    | normal =>
      obtain ⟨hk, hkp3, hi3⟩ := hp
      have hg3 := hfin W3 hk
      exact ⟨_, _, run_endRound none hg3.2.2.1, hkf W3 _ hk, .inl ⟨rfl, ⟨hI.put _ hi3 (by omega) hg3.2.2.1 rfl, hput _ hg3⟩, (hkp2.trans hkp3).trans (hKb .busy none _ rfl hg3)⟩⟩
    | ret => exact hjump _ W3 hp.1 hp.2
    | exit id => exact hjump _ W3 hp.1 hp.2
    | goto t => exact hjump _ W3 hp.1 hp.2
    | panic ch => exact hp.elim
    | outgrown => exact hp.elim
  · refine ⟨hI _ _ _ _ _ none (hI _ _ _ _ _ none h0 (World.grownBy_alloc w _ none) (fun r e => by cases e) (fun _ h => .inl h)) (World.grownBy_alloc _ _ none) (fun r e => by cases e) (fun _ h => .inl h), Nat.le_refl _, fun b hb => hb.elim, hl2, hd2⟩
  · rintro e W ⟨⟨v, rfl⟩, ⟨p, xs, hS, hi, hgd⟩ | ⟨p, pre, hSp, c, hi, hgd⟩⟩
    · exact ⟨none, _, run_endLoop hgd.2.2.1 (by simp), hdone _ p xs _ (Nat.le_refl _) (hmine hgd).2 hS (hI.put _ hi (by omega) hgd.2.2.1 rfl) ((World.putObj_heap_other (by omega)).trans hgd.2.2.2)⟩
    · exact ⟨some c, _, run_endLoop hgd.2.2.1 (by simp), hstop _ c p pre _ (Nat.le_refl _) (hmine hgd).2 hSp ((hIx c).put _ hi (by omega) hgd.2.2.1 rfl) ((World.putObj_heap_other (by omega)).trans hgd.2.2.2)⟩
end Go.Proofs.YtdigiaigbcfccaaGreatDoor

namespace Go.Proofs.YtdigiaigbcfccaaGreatDoor
open Go.RowKit Go Go.Shelf

attribute [local go_sem] Oper.semAt_some

/-- The places of nodes, out of how deep each lies. -/
def scanP : List Int → List (Int × Tr) → List (List Int × Tr)
  | _, [] => []
  | ns, x :: xs => (nextP ns x.1.toNat, x.2) :: scanP (nextP ns x.1.toNat) xs
def lastP (ns : List Int) (xs : List (Int × Tr)) : List Int := xs.foldl (fun q x => nextP q x.1.toNat) ns
theorem scanP_append : ∀ (ns : List Int) (xs ys : List (Int × Tr)), scanP ns (xs ++ ys) = scanP ns xs ++ scanP (lastP ns xs) ys
  | _, [], _ => rfl
  | ns, x :: xs, ys => by
    simp only [List.cons_append, scanP, lastP, List.foldl_cons, List.cons.injEq, true_and]
    exact scanP_append _ xs ys
theorem scanP_length : ∀ (ns : List Int) (xs : List (Int × Tr)), (scanP ns xs).length = xs.length
  | _, [] => rfl
  | ns, x :: xs => by simp [scanP, scanP_length _ xs]
theorem scanP_prefix {q l : List (Int × Tr)} (h : q <+: l) (ns : List Int) : scanP ns q <+: scanP ns l := by
  obtain ⟨r, rfl⟩ := h
  rw [scanP_append]
  exact List.prefix_append _ _
theorem lastP_snoc (ns : List Int) (xs : List (Int × Tr)) (x : Int × Tr) : lastP ns (xs ++ [x]) = nextP (lastP ns xs) x.1.toNat := by simp [lastP]

def smallP (m : Int) (ns : List Int) : Prop := ns.length ≤ 1000000000 ∧ ∀ x, x ∈ ns → 0 ≤ x ∧ x ≤ m
theorem smallP_next {m : Int} {ns : List Int} {d : Nat} (h : smallP m ns) (hm : 0 ≤ m) (hd : d ≤ 1000000000) : smallP (m + 1) (nextP ns d) := by
  obtain ⟨h1, h2⟩ := h
  unfold nextP
  split
  · refine ⟨by simp; omega, fun x hx => ?_⟩
    rcases List.mem_append.1 hx with hx | hx
    · have := h2 x hx; omega
    · simp at hx; omega
  · split
    · refine ⟨by simp; omega, fun x hx => ?_⟩
      rcases List.mem_append.1 hx with hx | hx
      · have := h2 x (List.mem_of_mem_take hx); omega
      · simp only [List.mem_singleton] at hx
        by_cases hl : d - 2 < ns.length
        · rw [List.getD, List.getElem?_eq_getElem hl] at hx
          have := h2 _ (List.getElem_mem hl)
          simp at hx; omega
        · rw [List.getD, List.getElem?_eq_none (by omega)] at hx
          simp at hx; omega
    · exact ⟨by simp, fun x hx => by simp at hx⟩

theorem Nums.base {b c : Nat} {W : World} {v : Value} {ns : List Int} (h : Nums b W v ns) (hc : c ≤ b) : Nums c W v ns := by
  refine ⟨h.1, h.2.imp id ?_⟩
  rintro ⟨g, cap, cur, e, h1, h2⟩
  exact ⟨g, cap, cur, e, by omega, h2⟩
theorem Nums.at {b : Nat} {W W' : World} {v : Value} {ns : List Int} (h : Nums b W v ns) (hk : ∀ g, v.ownBlock = some g → W'.heap[g]? = W.heap[g]?) : Nums b W' v ns := by
  refine ⟨h.1, h.2.imp id ?_⟩
  rintro ⟨g, cap, cur, e, h1, h2, h3⟩
  subst e
  exact ⟨g, cap, cur, rfl, h1, (hk g rfl).trans h2, h3⟩
theorem Nums.cells {b : Nat} {W : World} {v : Value} {ns : List Int} (h : Nums b W v ns) (g : Nat) (hg : v.ownBlock = some g) : b ≤ g ∧ ∃ cur, Box W g cur 3 := by
  rcases h.open with ⟨rfl, _⟩ | ⟨g', cap, cur, rfl, h1, h2, _⟩
  · cases hg
  · cases hg; exact ⟨h1, cur, h2⟩
theorem Nums.not_box {b B : Nat} {W : World} {v : Value} {ns : List Int} {cs : Array Value} {t : TypeId} (h : Nums b W v ns) (hB : Box W B cs t) (ht : t ≠ 3) : some B ≠ v.ownBlock := fun e => by
  obtain ⟨_, cur, hc⟩ := h.cells B e.symm
  rw [Box, hB] at hc
  cases hc
  exact ht rfl
theorem Nums.put {b l : Nat} {W : World} {v : Value} {ns : List Int} {o : Obj} (h : Nums b W v ns) (hl : W.heap[l]? = some o) (ho : o.isCells = false) (o' : Obj) : Nums b (W.putObj l o') v ns :=
  h.at fun g hg => World.putObj_heap_other fun e => by
    obtain ⟨_, cur, hc⟩ := h.cells g hg
    subst e
    rw [Box, hl] at hc
    cases hc
    cases ho

/-- A place and its node, as they are handed to a round. -/
abbrev Pl (n₀ : Nat) (W₀ : World) : Type := { x : (List Int × Value) × Tr × Value // IsT n₀ W₀ x.2.1 x.2.2 }
def Pl.encs {n₀ : Nat} {W₀ : World} (x : Pl n₀ W₀) : Array Value := #[x.1.1.2, x.1.2.2]
def Pl.fg {n₀ : Nat} {W₀ : World} (x : Pl n₀ W₀) : List Int × Tr := (x.1.1.1, x.1.2.1)
def Pl.V {n₀ : Nat} {W₀ : World} (p : Nat → Prop) (x : Pl n₀ W₀) (W : World) : Prop := Nums n₀ W x.1.1.2 x.1.1.1 ∧ (∀ b, x.1.1.2.ownBlock = some b → p b) ∧ x.1.1.1.length ≤ 1000000000
theorem Pl.V_put {n₀ : Nat} {W₀ : World} : ∀ (p : Nat → Prop) (x : Pl n₀ W₀) (W : World) (l : Nat) (o o' : Obj), Pl.V p x W → ¬ p l → W.heap[l]? = some o → o.isCells = false → Pl.V p x (W.putObj l o') :=
  fun _ _ _ _ _ o' h _ hl ho => ⟨h.1.put hl ho o', h.2⟩

theorem grown_below' {n₀ : Nat} {w w' : World} {row : Option Nat} (h : w.grownBy w' row) (hn : n₀ ≤ w.heap.size) (hr : ∀ g, row = some g → n₀ ≤ g) : Below n₀ w w' :=
  ⟨h.os, h.tape, h.output, h.size, fun k hk => h.block k (by omega) (fun e => by have := hr k e.symm; omega)⟩
theorem grown_b (row : Option Nat) {w w' : World} (h : Below w.heap.size w w') : w.grownBy w' row := ⟨h.os, h.tape, h.output, h.size, fun k hk _ => h.block k hk⟩

/-- The blocks of the iterator itself: yield's box, the place's box, the place. -/
def mine (B : Nat) (v : Value) (b : Nat) : Prop := b = B ∨ b = B + 1 ∨ v.ownBlock = some b

/-- Between two rounds. -/
def PI {n₀ : Nat} {W₀ : World} (l B : Nat) (J : (Nat → Prop) → List (Pl n₀ W₀) → World → Prop) (pre : List (Nd n₀ W₀)) (W : World) : Prop :=
  ∃ (v : Value) (ys : List (Pl n₀ W₀)), J (mine B v) ys W ∧ ys.map Pl.fg = scanP [] (pre.map Nd.fg) ∧ smallP pre.length (lastP [] (pre.map Nd.fg)) ∧ Box W B #[.func (.yield l) #[] #[]] 119 ∧ Box W (B + 1) #[v] 30 ∧
    Nums B W v (lastP [] (pre.map Nd.fg)) ∧ B + 3 ≤ W.heap.size
def PX {n₀ : Nat} {W₀ : World} (B : Nat) (Jx : (Nat → Prop) → List (Pl n₀ W₀) → World → Prop) (c : Code) (pre : List (Nd n₀ W₀)) (W : World) : Prop :=
  c = .ret ∧ ∃ (v : Value) (ys : List (Pl n₀ W₀)), Jx (mine B v) ys W ∧ ys.map Pl.fg = scanP [] (pre.map Nd.fg) ∧ B + 3 ≤ W.heap.size
theorem PI.own {n₀ : Nat} {W₀ : World} (l B : Nat) {J : (Nat → Prop) → List (Pl n₀ W₀) → World → Prop} (hJ : Shut B J) : OwnFrom (B + 3) (PI l B J) := by
  rintro s X Y row ⟨v, ys, h1, h2, h3, h4, h5, h6, h7⟩ hg hr
  have hr2 : ∀ r, row = some r → ∃ o : Obj, X.heap[r]? = some o ∧ o.isCells = false := fun r e => (hr r e).2
  refine ⟨v, ys, hJ _ _ ys X Y row h1 hg (fun r e => .inr ⟨by have := (hr r e).1; omega, (hr r e).2⟩) (fun _ h => .inl h), h2, h3, Box.own _ _ (fun _ => _) () X Y row h4 hg hr2, Box.own _ _ (fun _ => _) () X Y row h5 hg hr2, ?_, Nat.le_trans h7 hg.size⟩
  refine h6.at fun g hgb => hg.block g ?_ fun e => ?_
  · obtain ⟨_, cur, hc⟩ := h6.cells g hgb
    exact hc.lt
  · obtain ⟨_, cur, hc⟩ := h6.cells g hgb
    obtain ⟨o, ho, hn⟩ := hr2 g e.symm
    rw [Box, ho] at hc
    cases hc
    cases hn
theorem PX.own {n₀ : Nat} {W₀ : World} (B : Nat) {Jx : (Nat → Prop) → List (Pl n₀ W₀) → World → Prop} (hJ : Shut B Jx) (c : Code) : OwnFrom (B + 3) (PX B Jx c) := by
  rintro s X Y row ⟨hc, v, ys, h1, h2, h3⟩ hg hr
  exact ⟨hc, v, ys, hJ _ _ ys X Y row h1 hg (fun r e => .inr ⟨by have := (hr r e).1; omega, (hr r e).2⟩) (fun _ h => .inl h), h2, Nat.le_trans h3 hg.size⟩

set_option maxRecDepth 100000 in
set_option maxHeartbeats 2000000 in
/-- places(t) hands back a function over which can be ranged. -/
theorem places_priv {F : Fence} (hF : Fence.wide = F) (hd : F.depth = none) (hf : ∀ f, F.fn f) (hro : F.round = none) (n : Nat) (h1 : 1 ≤ n) (Bt n₀ : Nat) (T : Tr) (v : Value) (W₀ w : World) (hBt : Box w Bt v.cells 24) (hBW : Below n₀ W₀ w) (hn₀ : n₀ ≤ w.heap.size)
    (hT : IsT n₀ W₀ T v) (hdeep : T.deep ≤ 999999999) (hsz : T.size ≤ 1000000000) :
    SeqPriv F n Tryz.prog 77 #[.pointer (some ⟨Bt, 0, none⟩)] (Pl.encs (n₀ := n₀) (W₀ := W₀)) Pl.V n₀ (fun ys => ys.map Pl.fg = scanP [] (preT 1 T)) (fun ys => ys.map Pl.fg <+: scanP [] (preT 1 T)) T.size w := by
  intro l J Jx W hW hJ hJx hY hJ0
  cases T with
  | node k nn s ts =>
  have hT' := hT
  obtain ⟨a, c, rfl, _⟩ := hT'.open
  have hBt' : Box W Bt #[.int .i64 k, .int .i64 nn, .string s, .slice a ts.length c] 24 := Box.keep hW hBt
  have hc0 := hBt'.cell 0
  have hc1 := hBt'.cell 1
  have hc2 := hBt'.cell 2
  have hc3 := hBt'.cell 3
  have hBtl := hBt'.lt
  simp only [List.getElem?_toArray, List.getElem?_cons_succ, List.getElem?_cons_zero] at hc0 hc1 hc2 hc3
  have hnW : n₀ ≤ W.heap.size := Nat.le_trans hn₀ hW.size
  have hBW2 := hBW.trans (hW.mono hn₀)
  have HY := Lib.hid hY
  have HJ := Lib.hid (And.intro hJ hJx)
  have HJ0 := Lib.hid hJ0
  clear hBt hBt' hW hBW hY hJ hJx hJ0 hn₀
  refine callsIn_of_wp_marks Tryz.func77 rfl (hf _) ?_ hro
  simp only [Tryz.ntmps77, List.size_toArray, List.length_cons, List.length_nil, Nat.reduceAdd, Nat.reduceSub, Array.replicate_succ, Array.replicate_zero, List.push_toArray, List.append_toArray, List.nil_append, List.cons_append]
  gi_wp2_with fail
  refine (CallsIn.mono (callsIn_of_calls hF (nodes_any _ k nn s a ts.length c rfl _)) ?_)
  rintro e w' ⟨rfl, rfl⟩
  gi_wp2_with fail
  have hin : PI l W.heap.size J ([] : List (Nd n₀ W₀)) (((W.alloc (.cells #[.func (.yield l) #[] #[]] 119)).alloc (.cells #[.slice none 0 0] 30)).alloc (.cells #[.int .i64 k, .int .i64 nn, .string s, .slice a ts.length c] 24)) := by
    refine ⟨.slice none 0 0, [], ?_, rfl, ⟨by simp [lastP], fun x hx => by simp [lastP] at hx⟩, ((Box.at rfl).alloc _).alloc _, (Box.at (by simp)).alloc _, World.ownsRow_nil _ _ _ _, by simp⟩
    exact HJ.out.1 _ _ _ _ _ none HJ0.out (grown_b none (below_a3 (Nat.le_refl _) _ _ _)) (fun r e => by cases e) (fun b hb => .inr (by
      rcases hb with h | h | h
      · simp; omega
      · simp; omega
      · cases h))
  refine range_nodesH hd hf hro h1 (W.heap.size + 1 + 1) n₀ (.node k nn s ts) (.agg #[.int .i64 k, .int .i64 nn, .string s, .slice a ts.length c]) W₀ rfl (block_at (by simp)) (hBW2.trans (below_a3 hnW _ _ _)) (by simp; omega) hT hdeep rfl
    (PI l W.heap.size J) (PX W.heap.size Jx) (by simpa using PI.own l W.heap.size HJ.out.1) (fun c => by simpa using PX.own W.heap.size HJ.out.2 c) hin ?_
  have hs3 : (((W.alloc (.cells #[.func (.yield l) #[] #[]] 119)).alloc (.cells #[.slice none 0 0] 30)).alloc (.cells #[.int .i64 k, .int .i64 nn, .string s, .slice a ts.length c] 24)).heap.size = W.heap.size + 3 := by simp
  rw [hs3]
  have hown := PI.own l W.heap.size HJ.out.1
  apply Exists.intro
  apply And.intro
  · rintro l2 pre ⟨⟨d, T', v'⟩, hT', hd'⟩ Wb K hI hK
    cases T' with
    | node k' n' s' ts' =>
    obtain ⟨a', c', rfl, _⟩ := hT'.open
    simp only [Nd.encs]
    gi_wp2_with fail
    have hblk := World.alloc_heap_new Wb (.cells #[.int .i64 k', .int .i64 n', .string s', .slice a' ts'.length c'] 24)
    have hsW : n₀ ≤ Wb.heap.size := by obtain ⟨_, _, _, _, _, _, _, _, h⟩ := hI; omega
    have hKT := (KT.refl n₀ Wb).alloc hsW (.cells #[.int .i64 k', .int .i64 n', .string s', .slice a' ts'.length c'] 24)
    have hI' := hown.alloc (.cells #[.int .i64 k', .int .i64 n', .string s', .slice a' ts'.length c'] 24) hI
    have hKF := (KeepsOthers.alloc Wb (.cells #[.int .i64 k', .int .i64 n', .string s', .slice a' ts'.length c'] 24)).from
    replace hK := fun Bx W' => hK Bx W'
    dsimp only [Value.cells] at hK
    generalize Wb.alloc (.cells #[.int .i64 k', .int .i64 n', .string s', .slice a' ts'.length c'] 24) = W' at *
    generalize Wb.heap.size = Bx at *
    replace hK := hK Bx W' (hKF _) hKT hI' hblk
    generalize Value.agg #[.int .i64 k', .int .i64 n', .string s', .slice a' ts'.length c'] = v' at *
    exact hK
  refine ⟨?_, ?_, ?_⟩
  · rintro l2 pre ⟨⟨d, T', v'⟩, hT', hd'⟩ Bx Wb hI hx hpre
    cases T' with
    | node k' n' s' ts' =>
    obtain ⟨a', c', rfl, _⟩ := hT'.open
    dsimp only [Value.cells] at hx
    obtain ⟨v, ys, h1, h2, h3, h4, h5, h6, h7⟩ := hI
    obtain ⟨hd1, hd2⟩ := hd'
    obtain ⟨m, rfl⟩ := Int.eq_ofNat_of_zero_le (Int.le_trans (by decide) hd1)
    have hxB : Box Wb Bx #[.int .i64 k', .int .i64 n', .string s', .slice a' ts'.length c'] 24 := hx
    have c5 := h5.cell 0
    simp only [List.getElem?_toArray, List.getElem?_cons_zero] at c5
    have hPrev := Lib.hid (And.intro h1 (And.intro h2 h3))
    have H6 := Lib.hid h6
    have hcall := nextPlace_any W.heap.size (lastP [] (pre.map Nd.fg)) m v Wb h6 (by omega) (by omega) (by omega) h3.1 (fun x hx => by have := h3.2 x hx; omega)
    clear h1 h2 h3 h6 hx
    gi_wp2_with fail
    refine (CallsIn.inRound l2 (callsIn_of_calls hF hcall)).mono ?_
    rintro e w1 ⟨v1, rfl, hN1, hg1, hwh⟩
    have hneB := H6.out.not_box h4 (by decide)
    have hneP := H6.out.not_box h5 (by decide)
    have hneX := H6.out.not_box hxB (by decide)
    have q4 : Box w1 W.heap.size #[.func (.yield l) #[] #[]] 119 := (hg1.block _ h4.lt hneB).trans h4
    have q5 : Box w1 (W.heap.size + 1) #[v] 30 := (hg1.block _ h5.lt hneP).trans h5
    have qx : Box w1 Bx #[.int .i64 k', .int .i64 n', .string s', .slice a' ts'.length c'] 24 := (hg1.block _ hxB.lt hneX).trans hxB
    have hXP : Bx ≠ W.heap.size + 1 := fun e => by
      rw [e, Box, q5] at qx
      simp at qx
    have hkf1 : KeepsFrom (W.heap.size + 3) Wb (w1.setCell ⟨W.heap.size + 1, 0, none⟩ v1) :=
      (KeepsOthers.of_grownBy hg1 fun j o ej hj => by
        obtain ⟨_, cur, hc⟩ := H6.out.cells j ej
        rw [Box, hj] at hc
        cases hc
        rfl).from _ |>.trans ((KeepsOthers.setCell _ _ _).from _)
    have hkt1 : KT n₀ Wb (w1.setCell ⟨W.heap.size + 1, 0, none⟩ v1) := by
      refine KT.setBx (B := W.heap.size + 1) ⟨grown_below' hg1 (by omega) (fun g hg => by have := (H6.out.cells g hg).1; omega), fun b cs fr hb => (hg1.block b (Array.getElem?_eq_some_iff.1 hb).1 ?_).trans hb⟩ q5 (by decide) (by omega) 0 v1
      intro e
      obtain ⟨_, cur, hc⟩ := H6.out.cells b e.symm
      rw [Box, hb] at hc
      simp at hc
    obtain ⟨a1, m1, c1, hv1⟩ : ∃ a1 m1 c1, v1 = .slice a1 m1 c1 := by
      rcases hN1.open with ⟨rfl, _⟩ | ⟨g, cap, cur, rfl, _⟩ <;> exact ⟨_, _, _, rfl⟩
    have hne1 := hN1.not_box q5 (by decide)
    have N2 : Nums W.heap.size (w1.setCell ⟨W.heap.size + 1, 0, none⟩ v1) v1 (nextP (lastP [] (pre.map Nd.fg)) m) := hN1.at fun g hg => Below.heap_setCell w1 ⟨W.heap.size + 1, 0, none⟩ v1 g (fun e => hne1 (by rw [hg]; exact congrArg some e.symm))
    have J2 : J (mine W.heap.size v1) ys (w1.setCell ⟨W.heap.size + 1, 0, none⟩ v1) := by
      refine HJ.out.1 (mine W.heap.size v1) _ ys w1 _ (some (W.heap.size + 1)) ?_ (grown_set (W.heap.size + 1) 0 w1 v1) (fun r e => by cases e; exact .inl (.inr (.inl rfl))) (fun _ h => .inl h)
      refine HJ.out.1 (mine W.heap.size v) _ ys Wb w1 v.ownBlock hPrev.out.1 hg1 (fun r e => .inl (.inr (.inr e))) (fun b hb => ?_)
      rcases hb with h | h | h
      · exact .inl (.inl h)
      · exact .inl (.inr (.inl h))
      · rcases hwh b h with h' | h'
        · exact .inl (.inr (.inr h'))
        · obtain ⟨_, cur, hc⟩ := hN1.cells b h
          exact .inr ⟨h', hc.lt⟩
    have hlen : ys.length < (Tr.node k nn s ts).size := by
      have := congrArg List.length hPrev.out.2.1
      rw [scanP_length, List.length_map, List.length_map] at this
      omega
    have hyield := HY.out (mine W.heap.size v1) ys ⟨((nextP (lastP [] (pre.map Nd.fg)) m, v1), .node k' n' s' ts', _), hT'⟩ _ J2 ⟨N2.base hnW, fun b hb => .inr (.inr hb), (smallP_next (d := m) hPrev.out.2.2 (by omega) (by omega)).1⟩ hlen
    have hyield := yield_any hd (n - 1 - 1 - 1) hyield
    simp only [Pl.encs] at hyield
    have p4 := q4.other (B' := W.heap.size + 1) (by omega) 0 v1
    have p5 := q5.set 0 v1
    have px := qx.other (B' := W.heap.size + 1) hXP 0 v1
    have hN2 := Lib.hid N2
    have hKK := Lib.hid (And.intro hkf1 hkt1)
    have hsw : Wb.heap.size ≤ w1.heap.size := hg1.size
    clear hneB hneP hneX hXP hg1 hwh q4 qx N2 J2 h4 h5 hxB hcall hkf1 hkt1 hN1 hne1 c5 hlen
    have fz := q5.frozen 0
    have cz := q5.cell 0
    simp only [List.getElem?_toArray, List.getElem?_cons_zero] at cz
    subst hv1
    have d4 := p4.cell 0
    have d5 := p5.cell 0
    have x0 := px.cell 0
    have x1 := px.cell 1
    have x2 := px.cell 2
    have x3 := px.cell 3
    simp at d4 d5 x0 x1 x2 x3
    obtain ⟨fn, tmps, assign, body, hy, hR⟩ := hyield
    gi_wp2_with fail
    refine RoundIn.mono hR ?_
    clear hR hy
    have p5' : Box (w1.setCell ⟨W.heap.size + 1, 0, none⟩ (.slice a1 m1 c1)) (W.heap.size + 1) #[.slice a1 m1 c1] 30 := by simpa using p5
    have hscan : (ys ++ [(⟨((nextP (lastP [] (pre.map Nd.fg)) m, .slice a1 m1 c1), .node k' n' s' ts', .agg #[.int .i64 k', .int .i64 n', .string s', .slice a' ts'.length c']), hT'⟩ : Pl n₀ W₀)]).map (Pl.fg (n₀ := n₀) (W₀ := W₀)) =
        scanP [] ((pre ++ [(⟨((m : Int), .node k' n' s' ts', .agg #[.int .i64 k', .int .i64 n', .string s', .slice a' ts'.length c']), hT', hd1, hd2⟩ : Nd n₀ W₀)]).map (Nd.fg (n₀ := n₀) (W₀ := W₀))) := by
      rw [List.map_append, List.map_append, scanP_append, hPrev.out.2.1]
      rfl
    have hsm := smallP_next (d := m) hPrev.out.2.2 (by omega) (by omega)
    rintro e W3 ⟨hkf, (⟨rfl, hJ3, hkt3, hkp3⟩ | ⟨rfl, hX3⟩)⟩
    · have hfin := Lib.hid (And.intro hscan (And.intro hJ3 (And.intro hkt3 (And.intro hkp3 (And.intro hkf (And.intro p4 (And.intro p5' hsm)))))))
      clear hscan hJ3 hkt3 hkp3 hkf p4 p5 p5' hsm px d4 d5 x0 x1 x2 x3 fz cz q5
      gi_wp2_with fail
      obtain ⟨hscan, hJ3, hkt3, hkp3, hkf, p4, p5', hsm⟩ := hfin.out
      have hs1 := hkf.size
      refine ⟨hKK.out.1.trans (kf_up hkf (by omega)), hKK.out.2.trans hkt3, _, _, hJ3, hscan, ?_, (hkp3 _ (.inl rfl) p4.lt).trans p4, (hkp3 _ (.inr (.inl rfl)) p5'.lt).trans p5', ?_, by simp at hs1; omega⟩
      · rw [List.map_append, List.map_cons, List.map_nil, lastP_snoc, len_snoc]
        exact hsm
      · rw [List.map_append, List.map_cons, List.map_nil, lastP_snoc]
        exact hN2.out.at fun g hg => hkp3 g (.inr (.inr hg)) (by obtain ⟨_, cur, hc⟩ := hN2.out.cells g hg; exact hc.lt)
    · have hfin := Lib.hid (And.intro hscan (And.intro hX3 hkf))
      clear hscan hX3 hkf p4 p5 p5' hsm px d4 d5 x0 x1 x2 x3 fz cz q5
      gi_wp2_with fail
      obtain ⟨hscan, hX3, hkf⟩ := hfin.out
      have hs1 := hkf.size
      exact ⟨hKK.out.1.trans (kf_up hkf (by omega)), rfl, _, _, hX3, hscan, by simp at hs1; omega⟩
  · rintro D xs W4 hDle hxs ⟨v, ys, h1, h2, h3, h4, h5, h6, h7⟩ hK
    have hfin := Lib.hid (And.intro h1 h2)
    clear h1 h2 h3 h4 h5 h6
    gi_wp2_with fail
    refine ⟨by simp, .inl ⟨_, _, rfl, run_takeDeferred hK, ?_⟩⟩
    obtain ⟨h1, h2⟩ := hfin.out
    rw [hxs] at h2
    have hz := HJ.out.1.put (.deferred none) h1 (by omega) hK rfl
    refine ⟨.tuple #[], by simp [results, Tryz.results77, go_sem], ⟨_, rfl⟩, .inl ⟨_, _, h2, hz⟩⟩
  · rintro D c pre W4 hDle hpre ⟨rfl, v, ys, h1, h2, h7⟩ hK
    have hfin := Lib.hid (And.intro h1 h2)
    clear h1 h2
    gi_wp2_with fail
    refine ⟨by simp, .inl ⟨_, _, rfl, run_takeDeferred hK, ?_⟩⟩
    obtain ⟨h1, h2⟩ := hfin.out
    have hz := HJ.out.2.put (.deferred none) h1 (by omega) hK rfl
    refine ⟨.tuple #[], by simp [results, Tryz.results77, go_sem], ⟨_, rfl⟩, .inr ⟨_, _, ?_, hz⟩⟩
    rw [h2]
    exact scanP_prefix hpre []
end Go.Proofs.YtdigiaigbcfccaaGreatDoor
