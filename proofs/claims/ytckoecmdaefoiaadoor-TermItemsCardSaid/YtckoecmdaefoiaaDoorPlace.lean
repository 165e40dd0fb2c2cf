import Derived.OwnWalk
import Derived.OwnWalkIn
import Derived.RangeFuncBox
import Derived.Test.YtckoecmdaefoiaaDoorHigh
namespace Go.Proofs.YtckoecmdaefoiaaDoor
open Go.RowKit Go

theorem infoInt : (Tryd.prog.info? 3).map (fun i => (i.zero, i.size, i.bytes)) = some (some (.int .i64 0), 1, 8) := by kernel_rfl
def ints (ns : List Int) : List Value := ns.map (Value.int .i64)
/-- The place behind the place ns, of a node that lies d deep. -/
def nextP (ns : List Int) (d : Nat) : List Int :=
  if ns.length < d - 1 then ns ++ [0] else if 1 < d then ns.take (d - 2) ++ [ns.getD (d - 2) 0 + 1] else []

/-- v is a slice of its own, in a block from base on, with these numbers. -/
def Nums (base : Nat) (W : World) (v : Value) (ns : List Int) : Prop := W.ownsRow base 3 1 v ns.length (ints ns)
theorem Nums.open {base : Nat} {W : World} {v : Value} {ns : List Int} (h : Nums base W v ns) : (v = .slice none 0 0 ∧ ns = []) ∨ ∃ g cap cur, v = .slice (some ⟨g, 0, none⟩) ns.length cap ∧ base ≤ g ∧ Box W g cur 3 ∧ ns.length ≤ cap ∧ cap ≤ maxLen ∧ cur.size = cap ∧ cur.toList.take ns.length = ints ns := by
  rcases h.2 with ⟨rfl, h0⟩ | ⟨g, cap, cur, rfl, h1, h2, h3, h4, h5, h6⟩
  · exact .inl ⟨rfl, List.length_eq_zero_iff.1 h0⟩
  · exact .inr ⟨g, cap, cur, rfl, h1, h2, h3, h4, by simpa using h5, by simpa using h6⟩
theorem Nums.mk {base : Nat} {W : World} {g cap : Nat} {cur : Array Value} {ns : List Int} (h1 : base ≤ g) (h2 : Box W g cur 3) (h3 : ns.length ≤ cap) (h4 : cap ≤ maxLen) (h5 : cur.size = cap) (h6 : cur.toList.take ns.length = ints ns) : Nums base W (.slice (some ⟨g, 0, none⟩) ns.length cap) ns :=
  ⟨by simp [ints], .inr ⟨g, cap, cur, rfl, h1, h2, h3, h4, by simpa using h5, by simpa using h6⟩⟩

section
variable {P : Program} {w : World}
/-- Where a slice that owns its row lies behind an append: where it lay, or in a new block. -/
theorem append_where (t ty e : TypeId) (i : TypeInfo) (z : Value) (size bytes : Nat) (ht : P.underlying t = some (.slice e)) (hi : P.info? e = some i) (hz : i.zero = some z)
    (hsize : i.size = size) (hby : i.bytes = bytes) (hzs : z.cells.size = size) (hsz : 0 < size) (base : Nat) (v : Value) (n : Nat) (xs : List Value) (hown : w.ownsRow base e size v n xs)
    (a : Addr) (m c : Nat) (news : List Value) (hl : news.length = m * size) (hnews : ∀ j u, news[j]? = some u → w.cell? (a.add j) = some u) (h1 : ∀ u ∈ news, u.oneCell' = true) (h63 : n + m ≤ maxLen) (hbytes : (n + m) * bytes ≤ 140737488355328)
    (v' : Value) (w' : World) (hr : (Builtin.append_ #[t, t] ty #[v, .slice (some a) m c]).run P w = .ok v' w') (b : Nat) (hb : v'.ownBlock = some b) : v.ownBlock = some b ∨ w.heap.size ≤ b := by
  rcases hown.2 with ⟨rfl, rfl⟩ | ⟨g, cap, cur, rfl, hbg, hg, hnc, hcm, hcs, htake⟩
  · have hx : xs = [] := List.eq_nil_of_length_eq_zero (by simpa using hown.1)
    subst hx
    obtain ⟨v2, w2, hr2, hown2, _, _⟩ := run_append_own (P := P) w w.heap.size t ty e i z size bytes ht hi hz hsize hby hzs hsz _ 0 [] (World.ownsRow_nil w _ e size) a m c news hl hnews h1 h63 hbytes (Nat.le_refl _)
    rw [hr] at hr2
    cases hr2
    exact .inr (hown2.lt b hb).1
  · subst hsize hby
    by_cases hroom : n + m ≤ cap
    · have hfit : n * i.size + news.length ≤ cur.size := by rw [hl, hcs, ← Nat.add_mul]; exact Nat.mul_le_mul_right _ hroom
      rw [run_append_room (P := P) w t ty e i ht hi g n cap cur hg a m c news hl hnews h1 hroom hfit] at hr
      cases hr
      exact .inl hb
    · rw [run_append_grow (P := P) w t ty e i z ht hi hz ⟨g, 0, none⟩ n cap xs hown.1 (hown.cells (g := g) rfl) a m c news hl hnews (by omega) (by unfold maxLen at h63; omega) (growslice_fits (by omega) hbytes)] at hr
      cases hr
      simp [Value.ownBlock] at hb
      exact .inr (by omega)

theorem wpList_append_where {ops : Array Oper} {rest : List Oper} {o : Oper} {a : Act} {Q : Exit → Act → World → Prop} (hgd : o.guard = none) (s x : Operand) (t : TypeId)
    (ho : o.op = .call { callee := .builtin .append, args := #[s, x], argTypes := #[t, t] })
    (base : Nat) (e : TypeId) (i : TypeInfo) (z : Value) (size bytes : Nat) (ht : P.underlying t = some (.slice e)) (hi : P.info? e = some i) (hz : i.zero = some z)
    (hsize : i.size = size) (hby : i.bytes = bytes) (hzs : z.cells.size = size) (hsz : 0 < size)
    (v : Value) (n : Nat) (xs : List Value) (hs : a.eval s = v) (hown : w.ownsRow base e size v n xs)
    (ad : Addr) (m c : Nat) (news : List Value) (hx : a.eval x = .slice (some ad) m c) (hl : news.length = m * size) (hnews : ∀ j u, news[j]? = some u → w.cell? (ad.add j) = some u) (h1 : ∀ u ∈ news, u.oneCell' = true)
    (h63 : n + m ≤ maxLen) (hbytes : (n + m) * bytes ≤ 140737488355328) (hbase : base ≤ w.heap.size)
    (h : ∀ v' w', w'.ownsRow base e size v' (n + m) (xs ++ news) → w.grownBy w' v.ownBlock → (∀ b, v'.ownBlock = some b → v.ownBlock = some b ∨ w.heap.size ≤ b) → wpList P ops Q rest (a.put o.dst v') w') : wpList P ops Q (o :: rest) a w :=
  wpList_plain hgd fun K hK => by
    obtain ⟨v', w', hr, h2, h3, _⟩ := run_append_own (P := P) w base t o.type e i z size bytes ht hi hz hsize hby hzs hsz v n xs hown ad m c news hl hnews h1 h63 hbytes hbase
    have h4 := append_where t o.type e i z size bytes ht hi hz hsize hby hzs hsz base v n xs hown ad m c news hl hnews h1 h63 hbytes v' w' hr
    unfold Oper.wp execOp
    simp only [ho, resolve, invoke, builtin, Sem.run_bind, Sem.run_pure, Result.andThen_ok, List.map_toArray, List.map_cons, List.map_nil, hs, hx, hr]
    exact hK _ _ (h v' w' h2 h3 h4)
end

def NextPost (base : Nat) (v : Value) (ns : List Int) (d : Nat) (w : World) (e : Ending) (w' : World) : Prop := ∃ v', e = .returned v' ∧ Nums base w' v' (nextP ns d) ∧ w.grownBy w' v.ownBlock ∧ ∀ b, v'.ownBlock = some b → v.ownBlock = some b ∨ w.heap.size ≤ b

theorem take_get {cur : Array Value} {ns : List Int} {i : Nat} (h : cur.toList.take ns.length = ints ns) (hi : i < ns.length) : cur[i]? = some (.int .i64 (ns.getD i 0)) := by
  have h1 : (cur.toList.take ns.length)[i]? = (ints ns)[i]? := by rw [h]
  rw [List.getElem?_take_of_lt hi] at h1
  simp [ints] at h1
  rw [h1]
  simp [List.getD, List.getElem?_eq_getElem hi]

theorem nums_bump {base : Nat} {w : World} {g cap : Nat} {cur : Array Value} {ns : List Int} (hg1 : base ≤ g) (hg2 : Box w g cur 3) (hg4 : cap ≤ maxLen) (hg5 : cur.size = cap) (hg6 : cur.toList.take ns.length = ints ns) (hg3 : ns.length ≤ cap) {j : Nat} (hj : j < ns.length) (y : Int) :
    Nums base (w.setCell ⟨g, j, none⟩ (.int .i64 y)) (.slice (some ⟨g, 0, none⟩) (j + 1) cap) (ns.take j ++ [y]) := by
  have hlen : (ns.take j ++ [y]).length = j + 1 := by simp; omega
  have h := Nums.mk (cur := cur.setIfInBounds j (.int .i64 y)) (ns := ns.take j ++ [y]) hg1 (hg2.set j (.int .i64 y)) (by omega) hg4 (by simpa using hg5) (by
    have hjc : j < cur.toList.length := by simp; omega
    rw [hlen, Array.toList_setIfInBounds, List.take_succ_eq_append_getElem (by simpa using hjc)]
    have e1 : cur.toList.take j = ints (ns.take j) := by
      have := congrArg (List.take j) hg6
      rw [List.take_take, Nat.min_eq_left (Nat.le_of_lt hj)] at this
      rw [this]; simp [ints, List.map_take]
    simp only [List.getElem_set_self]
    rw [List.take_set_of_le (Nat.le_refl _), e1]
    simp [ints])
  rw [hlen] at h
  exact h

set_option maxRecDepth 100000 in
set_option maxHeartbeats 1000000 in
theorem nextPlace_any (base : Nat) (ns : List Int) (d : Nat) (v : Value) (w : World) (hv : Nums base w v ns) (hb : base ≤ w.heap.size) (hd1 : 1 ≤ d) (hd2 : d ≤ 1000000000) (hl : ns.length ≤ 1000000000) (hok : ∀ x, x ∈ ns → 0 ≤ x ∧ x ≤ 1000000000) :
    Calls Tryd.prog 124 #[v, .int .i64 d] w (NextPost base v ns d w) := by
  obtain ⟨i0, hi, hz0, hz1, hz2⟩ := info_parts infoInt
  have Hv := Lib.hid hv
  have hw : IntKind.i64.wrap ((d : Int) - 1) = (d : Int) - 1 := by rw [IntKind.wrap_i64]; omega
  by_cases h1 : ns.length < d - 1
  · have hP : nextP ns d = ns ++ [0] := by rw [nextP, if_pos h1]
    have HP := Lib.hid hP
    clear hP hok
    obtain ⟨len, cap, a, hve, hlen⟩ : ∃ (len cap : Nat) (a : Option Addr), v = .slice a len cap ∧ len = ns.length := by
      rcases hv.open with ⟨rfl, rfl⟩ | ⟨g, cap, cur, rfl, _⟩
      · exact ⟨0, 0, none, rfl, rfl⟩
      · exact ⟨_, cap, _, rfl, rfl⟩
    subst hve
    clear hv
    go_enter Tryd.func124, Tryd.ntmps124
    go_wp2_with (at_builtin; refine wpList_append_where rfl _ _ 35 rfl base 3 i0 (.int .i64 0) 1 8 Tryd.underlying35 hi hz0 hz1 hz2 rfl (by decide) _ _ _ rfl (World.ownsRow.alloc Hv.out _) ⟨w.heap.size, 0, none⟩ 1 1 [.int .i64 0] rfl rfl (cell_one_new _ _ _) (fun x hx => by simp at hx; subst hx; rfl) (by unfold maxLen; omega) (by omega) (by simp; omega) ?_)
    intro v' w1 hown hgrow hwh
    go_wp2_with fail
    go_ret
    refine ⟨_, rfl, ?_, ?_, fun b hb' => ?_⟩
    · rw [HP.out]
      simpa [Nums, ints] using hown
    · exact ⟨hgrow.os, hgrow.tape, hgrow.output, by have := hgrow.size; simp at this; omega, fun k hk hne => (hgrow.block k (by simp; omega) (by cases a <;> exact hne)).trans (Below.heap_alloc w _ k hk)⟩
    · rcases hwh b hb' with h | h
      · exact .inl (by cases a <;> exact h)
      · exact .inr (by have := World.size_alloc w (.cells #[Value.int .i64 0] 3); omega)
  · by_cases h2 : 1 < d
    · obtain ⟨j, rfl⟩ : ∃ j, d = j + 2 := ⟨d - 2, by omega⟩
      have hj : j < ns.length := by omega
      have hP : nextP ns (j + 2) = ns.take j ++ [ns.getD j 0 + 1] := by rw [nextP, if_neg (by omega), if_pos h2]; rfl
      have HP := Lib.hid hP
      clear hP
      rcases hv.open with ⟨_, rfl⟩ | ⟨g, cap, cur, rfl, hg1, hg2, hg3, hg4, hg5, hg6⟩
      · simp at hj
      have hx := take_get hg6 hj
      have hok := hok (ns.getD j 0) (by rw [List.getD, List.getElem?_eq_getElem hj]; exact List.getElem_mem hj)
      have hc := (hg2.cell j).trans hx
      have hfz := hg2.frozen j
      have hw2 : IntKind.i64.wrap (ns.getD j 0 + 1) = ns.getD j 0 + 1 := by rw [IntKind.wrap_i64]; omega
      have Hg6 := Lib.hid hg6
      have hgl := hg2.lt
      clear hv hg6
      generalize ns.getD j 0 = x at *
      have e1 : ((j + 2 : Nat) : Int) - 1 = (j : Int) + 1 := by omega
      rw [e1] at hw
      have e2 : IntKind.i64.wrap ((j : Int) + 1 - 1) = j := by rw [IntKind.wrap_i64]; omega
      go_enter Tryd.func124, Tryd.ntmps124
      go_wp2_with fail
      go_ret
      have hn := nums_bump (base := base) (w := w) (cap := cap) hg1 hg2 hg4 hg5 Hg6.out (by omega) hj (x + 1)
      refine ⟨_, rfl, ?_, grown_set g j w _, fun b hb' => .inl hb'⟩
      rw [HP.out]
      simpa [show j + 2 - 1 = j + 1 by omega, Nat.min_eq_left (Nat.le_of_lt hj)] using hn
    · have hP : nextP ns d = [] := by rw [nextP, if_neg h1, if_neg h2]
      have HP := Lib.hid hP
      clear hP hok
      obtain rfl : d = 1 := by omega
      rcases hv.open with ⟨rfl, rfl⟩ | ⟨g, cap, cur, rfl, hg1, hg2, hg3, hg4, hg5, hg6⟩
      · clear hv
        go_enter Tryd.func124, Tryd.ntmps124
        go_wp2_with fail
        go_ret
        refine ⟨_, rfl, ?_, ⟨rfl, rfl, rfl, Nat.le_refl _, fun _ _ _ => rfl⟩, fun b hb' => .inl hb'⟩
        rw [HP.out]
        exact World.ownsRow_nil _ _ _ _
      · clear hv
        go_enter Tryd.func124, Tryd.ntmps124
        go_wp2_with fail
        go_ret
        refine ⟨_, rfl, ?_, ⟨rfl, rfl, rfl, Nat.le_refl _, fun _ _ _ => rfl⟩, fun b hb' => .inl hb'⟩
        rw [HP.out]
        exact Nums.mk (ns := []) hg1 hg2 (Nat.zero_le _) hg4 hg5 rfl
end Go.Proofs.YtckoecmdaefoiaaDoor
