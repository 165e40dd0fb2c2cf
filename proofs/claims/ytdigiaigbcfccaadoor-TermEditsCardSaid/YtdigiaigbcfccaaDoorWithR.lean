/- A tree with another node at a place: the second reading of with. -/
import Derived.Test.YtdigiaigbcfccaaDoorRefAt
import Derived.Test.YtdigiaigbcfccaaDoorRowAt
import Derived.Test.YtdigiaigbcfccaaDoorTwo
namespace Go.Proofs.YtdigiaigbcfccaaDoor
open Go.RowKit Go

attribute [local go_sem] monoUpon Yld.says Oper.semAt_some

def withT : List Int → Tr → Tr → Tr
  | [], _, X => X
  | i :: p, .node k n s l, X => .node k n s (l.set i.toNat (withT p (l.getD i.toNat zeroTr) X))
/-- A slice of these numbers, with its capacity. -/
def RdC (n₀ : Nat) (W : World) (ns : List Int) (a : Option Addr) (c : Nat) : Prop := ns.length ≤ c ∧ c ≤ maxLen ∧ (0 < ns.length → ∃ b off, a = some ⟨b, off, none⟩ ∧ b < n₀ ∧ ∀ j, j < ns.length → W.cell? ⟨b, off + j, none⟩ = some (.int .i64 (ns.getD j 0)))
theorem RdC.rd {n₀ : Nat} {W : World} {ns : List Int} {a : Option Addr} {c : Nat} (h : RdC n₀ W ns a c) : RdN n₀ W ns (.slice a ns.length c) := ⟨a, c, rfl, Nat.le_trans h.1 h.2.1, h.2.2⟩
theorem RdC.keep {n₀ n₁ : Nat} {A B : World} {ns : List Int} {a : Option Addr} {c : Nat} (h : RdC n₀ A ns a c) (hb : Below n₀ A B) (hn : n₀ ≤ n₁) : RdC n₁ B ns a c := by
  refine ⟨h.1, h.2.1, fun h0 => ?_⟩
  obtain ⟨b, off, e2, h3, h4⟩ := h.2.2 h0
  exact ⟨b, off, e2, by omega, fun j hj => (hb.cell (p := ⟨b, off + j, none⟩) h3).trans (h4 j hj)⟩
/-- What with hands back. -/
def WtPost (n₀ : Nat) (X : Tr) (w : World) (e : Ending) (w' : World) : Prop := ∃ k n s a m c, e = .returned (.agg #[.int .i64 k, .int .i64 n, .string s, .slice a m c]) ∧ IsP (OA n₀ w.heap.size w') w' X (.agg #[.int .i64 k, .int .i64 n, .string s, .slice a m c]) ∧ Below w.heap.size w w'
def WtV (n₀ lo : Nat) (X : Tr) (v : Value) (W : World) : Prop := n₀ ≤ lo ∧ lo ≤ W.heap.size ∧ IsP (OA n₀ lo W) W X v
theorem WtV.steady (n₀ lo : Nat) (X : Tr) : (Yld.any (WtV n₀ lo X)).stable := fun _ _ _ he ⟨h1, h2, h3⟩ => ⟨h1, Nat.le_trans h2 (Below.size he), IsP.map (fun b hb => ⟨⟨hb.1, Nat.lt_of_lt_of_le hb.2 (Below.size he)⟩, Below.block he b hb.2⟩) _ _ h3⟩

theorem with_row {n₀ lo lw g cap q : Nat} {w0 w9 : World} {l : List Tr} {news : List Value} {Y : Tr} {u0 u1 u2 u3 : Value} (hown : w9.ownsRow lw 25 4 (.slice (some ⟨g, 0, none⟩) l.length cap) l.length news) (hq : q < l.length)
    (hl : ∀ i (hi : i < l.length), ∃ v0 v1 v2 v3, news[i * 4]? = some v0 ∧ news[i * 4 + 1]? = some v1 ∧ news[i * 4 + 2]? = some v2 ∧ news[i * 4 + 3]? = some v3 ∧ IsT n₀ w0 l[i] (.agg #[v0, v1, v2, v3]))
    (hB : Below n₀ w0 w9) (hng : n₀ ≤ lw) (_hn9 : n₀ ≤ w9.heap.size) (hgl : g < lo) (hlo : lw ≤ lo) (hY : IsP (OA n₀ lo w9) w9 Y (.agg #[u0, u1, u2, u3])) :
    IsPL (OA n₀ lw ((((w9.setCell ⟨g, q * 4, none⟩ u0).setCell ⟨g, q * 4 + 1, none⟩ u1).setCell ⟨g, q * 4 + 2, none⟩ u2).setCell ⟨g, q * 4 + 3, none⟩ u3)) ((((w9.setCell ⟨g, q * 4, none⟩ u0).setCell ⟨g, q * 4 + 1, none⟩ u1).setCell ⟨g, q * 4 + 2, none⟩ u2).setCell ⟨g, q * 4 + 3, none⟩ u3) (l.set q Y) (some ⟨g, 0, none⟩) ∧ l.length ≤ cap ∧ cap ≤ maxLen ∧ lw ≤ g ∧ g < w9.heap.size ∧ Below lw w9 ((((w9.setCell ⟨g, q * 4, none⟩ u0).setCell ⟨g, q * 4 + 1, none⟩ u1).setCell ⟨g, q * 4 + 2, none⟩ u2).setCell ⟨g, q * 4 + 3, none⟩ u3) := by
  have hg := hown.lt g rfl
  have hlen := hown.1
  have hcap : l.length ≤ cap ∧ cap ≤ maxLen := by
    rcases hown.2 with ⟨h', _⟩ | ⟨g', cap', cur, h', _, hg, h1, h2, _⟩
    · simp at h'
    · simp only [Value.slice.injEq, Option.some.injEq, Addr.mk.injEq, and_true, true_and] at h'
      obtain ⟨rfl, rfl⟩ := h'
      exact ⟨h1, h2⟩
  obtain ⟨o1, -⟩ := hown.stored (q * 4) u0
  obtain ⟨o2, -⟩ := o1.stored (q * 4 + 1) u1
  obtain ⟨o3, -⟩ := o2.stored (q * 4 + 2) u2
  obtain ⟨o4, -⟩ := o3.stored (q * 4 + 3) u3
  have hk : ∀ b, b ≠ g → ((((w9.setCell ⟨g, q * 4, none⟩ u0).setCell ⟨g, q * 4 + 1, none⟩ u1).setCell ⟨g, q * 4 + 2, none⟩ u2).setCell ⟨g, q * 4 + 3, none⟩ u3).heap[b]? = w9.heap[b]? := fun b hb => by
    rw [Below.heap_setCell _ _ _ _ hb, Below.heap_setCell _ _ _ _ hb, Below.heap_setCell _ _ _ _ hb, Below.heap_setCell _ _ _ _ hb]
  have hsz : ((((w9.setCell ⟨g, q * 4, none⟩ u0).setCell ⟨g, q * 4 + 1, none⟩ u1).setCell ⟨g, q * 4 + 2, none⟩ u2).setCell ⟨g, q * 4 + 3, none⟩ u3).heap.size = w9.heap.size := by simp
  refine ⟨?_, hcap.1, hcap.2, hg.1, hg.2, rfl, rfl, rfl, by simp, fun b hb => hk b (by omega)⟩
  refine IsPL.of_get ⟨.inr hg.1, by rw [hsz]; exact hg.2⟩ fun i hi => ?_
  simp only [List.length_set] at hi
  simp only [Nat.zero_add]
  by_cases e : i = q
  · subst e
    refine ⟨u0, u1, u2, u3, ?_, ?_, ?_, ?_, ?_⟩
    · rw [o4.cellAt _ (by omega), List.getElem?_set_ne (by omega), List.getElem?_set_ne (by omega), List.getElem?_set_ne (by omega), List.getElem?_set_self (by omega)]
    · rw [o4.cellAt _ (by omega), List.getElem?_set_ne (by omega), List.getElem?_set_ne (by omega), List.getElem?_set_self (by simp; omega)]
    · rw [o4.cellAt _ (by omega), List.getElem?_set_ne (by omega), List.getElem?_set_self (by simp; omega)]
    · rw [o4.cellAt _ (by omega), List.getElem?_set_self (by simp; omega)]
    · rw [List.getElem_set_self]
      exact IsP.map (fun b hb => ⟨⟨hb.1.imp id (fun h => by omega), by rw [hsz]; exact hb.2⟩, hk b (by rcases hb.1 with h | h <;> omega)⟩) _ _ hY
  · obtain ⟨v0, v1, v2, v3, c0, c1, c2, c3, ht⟩ := hl i hi
    refine ⟨v0, v1, v2, v3, ?_, ?_, ?_, ?_, ?_⟩
    · rw [o4.cellAt _ (by omega), List.getElem?_set_ne (by omega), List.getElem?_set_ne (by omega), List.getElem?_set_ne (by omega), List.getElem?_set_ne (by omega), c0]
    · rw [o4.cellAt _ (by omega), List.getElem?_set_ne (by omega), List.getElem?_set_ne (by omega), List.getElem?_set_ne (by omega), List.getElem?_set_ne (by omega), c1]
    · rw [o4.cellAt _ (by omega), List.getElem?_set_ne (by omega), List.getElem?_set_ne (by omega), List.getElem?_set_ne (by omega), List.getElem?_set_ne (by omega), c2]
    · rw [o4.cellAt _ (by omega), List.getElem?_set_ne (by omega), List.getElem?_set_ne (by omega), List.getElem?_set_ne (by omega), List.getElem?_set_ne (by omega), c3]
    · rw [List.getElem_set_ne (Ne.symm e)]
      exact IsP.map (fun b hb => ⟨⟨.inl hb, by rw [hsz]; omega⟩, hk b (by omega)⟩) _ _ (IsT.toP _ _ (ht.below hB))

set_option maxRecDepth 100000 in
set_option maxHeartbeats 4000000 in
theorem refWith_any (n₀ : Nat) (X : Tr) : ∀ (m : Nat) (p : List Int) (T : Tr) (v vx : Value) (a : Option Addr) (c : Nat) (w : World), p.length = m → n₀ ≤ w.heap.size → IsT n₀ w T v → IsT n₀ w X vx → RdC n₀ w p a c → (nodT p T).isSome = true → T.size ≤ 1000000 →
    Calls Tryd.prog 90 #[v, .slice a p.length c, vx] w (WtPost n₀ (withT p T X) w) := by
  intro m
  induction m with
  | zero =>
    intro p T v vx a c w hm hn hT hX hp hs hsz
    obtain rfl : p = [] := List.length_eq_zero_iff.1 hm
    obtain ⟨k, n, s, a1, m1, c1, rfl⟩ := (IsT.toP _ _ hT).form
    obtain ⟨xk, xn, xs, xa, xm, xc, rfl⟩ := (IsT.toP _ _ hX).form
    have zB := below_a3 (Nat.le_refl w.heap.size) (.cells #[.int .i64 k, .int .i64 n, .string s, .slice a1 m1 c1] 25) (.cells #[.int .i64 xk, .int .i64 xn, .string xs, .slice xa xm xc] 25) (.cells #[.int .i64 xk, .int .i64 xn, .string xs, .slice xa xm xc] 25)
    have hfin : Box (((w.alloc (.cells #[.int .i64 k, .int .i64 n, .string s, .slice a1 m1 c1] 25)).alloc (.cells #[.int .i64 xk, .int .i64 xn, .string xs, .slice xa xm xc] 25)).alloc (.cells #[.int .i64 xk, .int .i64 xn, .string xs, .slice xa xm xc] 25)) (w.heap.size + 1 + 1) #[.int .i64 xk, .int .i64 xn, .string xs, .slice xa xm xc] 25 ∧ IsP (OA n₀ w.heap.size (((w.alloc (.cells #[.int .i64 k, .int .i64 n, .string s, .slice a1 m1 c1] 25)).alloc (.cells #[.int .i64 xk, .int .i64 xn, .string xs, .slice xa xm xc] 25)).alloc (.cells #[.int .i64 xk, .int .i64 xn, .string xs, .slice xa xm xc] 25))) (((w.alloc (.cells #[.int .i64 k, .int .i64 n, .string s, .slice a1 m1 c1] 25)).alloc (.cells #[.int .i64 xk, .int .i64 xn, .string xs, .slice xa xm xc] 25)).alloc (.cells #[.int .i64 xk, .int .i64 xn, .string xs, .slice xa xm xc] 25)) X (.agg #[.int .i64 xk, .int .i64 xn, .string xs, .slice xa xm xc]) ∧ Below w.heap.size w (((w.alloc (.cells #[.int .i64 k, .int .i64 n, .string s, .slice a1 m1 c1] 25)).alloc (.cells #[.int .i64 xk, .int .i64 xn, .string xs, .slice xa xm xc] 25)).alloc (.cells #[.int .i64 xk, .int .i64 xn, .string xs, .slice xa xm xc] 25)) :=
      ⟨Box.at (by simp), IsP.map (fun b hb => ⟨⟨.inl hb, by have := zB.size; omega⟩, zB.block b (by omega)⟩) _ _ (IsT.toP _ _ hX), zB⟩
    have HF := Lib.hid hfin
    clear hfin zB hT hX hp hs
    go_enter Tryd.func90, Tryd.ntmps90
    go_wp2_with fail
    have y0 := HF.out.1.cell 0
    have y1 := HF.out.1.cell 1
    have y2 := HF.out.1.cell 2
    have y3 := HF.out.1.cell 3
    generalize ((w.alloc (.cells #[.int .i64 k, .int .i64 n, .string s, .slice a1 m1 c1] 25)).alloc (.cells #[.int .i64 xk, .int .i64 xn, .string xs, .slice xa xm xc] 25)).alloc (.cells #[.int .i64 xk, .int .i64 xn, .string xs, .slice xa xm xc] 25) = FW at *
    simp at y0 y1 y2 y3
    exact bodyPost_ret (v := .agg #[.int .i64 xk, .int .i64 xn, .string xs, .slice xa xm xc]) (by simp [results, Tryd.results90, go_sem, y0, y1, y2, y3]) rfl ⟨_, _, _, _, _, _, rfl, HF.out.2.1, HF.out.2.2⟩
  | succ m ih =>
    intro p T v vx a c w hm hn hT hX hp hs hsz
    cases T with
    | node k n s l =>
    obtain ⟨a1, c1, rfl, hk1, hk2, hk3, hlc, hcm, hL⟩ := hT.open
    have HK := Lib.hid (And.intro hk1 (And.intro hk2 hk3))
    clear hk1 hk2 hk3
    obtain ⟨xk, xn, xs, xa, xm, xc, rfl⟩ := (IsT.toP _ _ hX).form
    obtain ⟨hpc, hpm, hpb⟩ := hp
    obtain ⟨b, off, rfl, hbl, hcells⟩ := hpb (by omega)
    have hx0 := hcells 0 (by omega)
    obtain ⟨i, p', rfl⟩ : ∃ i p', p = i :: p' := by
      cases p with
      | nil => simp at hm
      | cons i p' => exact ⟨i, p', rfl⟩
    simp only [List.getD_cons_zero, Nat.add_zero] at hx0
    rw [nodT] at hs
    have hi0 : 0 ≤ i := by
      rcases Int.lt_or_le i 0 with h | h
      · rw [kidT_neg h] at hs; cases hs
      · exact h
    obtain ⟨q, rfl⟩ : ∃ q : Nat, i = (q : Int) := ⟨i.toNat, by omega⟩
    have hq : q < l.length := by
      rcases Nat.lt_or_ge q l.length with h | h
      · exact h
      · rw [kidT_over (t := .node k n s l) (by simp only [kidsT]; omega)] at hs; cases hs
    rw [kidT_some (t := .node k n s l) hi0 (by simpa [kidsT] using hq)] at hs
    replace hs : (nodT p' l[q]).isSome = true := by simpa [kidsT] using hs
    obtain ⟨b2, off2, rfl, hb2⟩ := hL.addr (by omega)
    obtain ⟨news, hn1, hn2, hn3, hn4⟩ := IsL.news l b2 off2 hL
    have hln : l.length ≤ 1000000 := by have := length_le_sizeL l; simp only [Tr.size] at hsz; omega
    have hlm : l.length ≤ 9223372036854775807 := by omega
    have hpm' : (((q : Int) :: p').length : Nat) ≤ 9223372036854775807 := by unfold maxLen at hpm; omega
    have hpm2 : c ≤ 9223372036854775807 := by unfold maxLen at hpm; omega
    have hp0 : 0 < ((q : Int) :: p').length := by simp
    have HW := Lib.hid (And.intro hT (And.intro hX (And.intro hL (And.intro hcells (And.intro hs (And.intro hn4 ih))))))
    clear hT hX hL hcells hs hn4 ih
    refine (callsIn_wide (n := 9)).1 ?_
    generalize hF : Fence.wide = F
    have hd : F.depth = none := by subst hF; rfl
    have hf : ∀ f, F.fn f := fun f => by subst hF; trivial
    have hro : F.round = none := by subst hF; rfl
    refine callsIn_of_wp Tryd.func90 rfl (hf _) ?_ hro
    simp only [Tryd.ntmps90, List.size_toArray, List.length_cons, List.length_nil, Nat.reduceAdd, Nat.reduceSub, Array.replicate_succ, Array.replicate_zero, List.push_toArray, List.append_toArray, List.nil_append, List.cons_append]
    obtain ⟨i0, hi, hz0, hz1, hz2⟩ := info_parts infoTerm
    have hBA : Below w.heap.size w ((((w.alloc (.cells #[.int .i64 k, .int .i64 n, .string s, .slice (some ⟨b2, off2, none⟩) l.length c1] 25)).alloc (.cells #[.int .i64 xk, .int .i64 xn, .string xs, .slice xa xm xc] 25)).alloc (.cells #[.int .i64 0, .int .i64 0, .string ⟨#[]⟩, .slice none 0 0] 25)).alloc (.cells #[.int .i64 k, .int .i64 n, .string s, .slice none 0 0] 25)) := (below_a3 (Nat.le_refl _) (.cells #[.int .i64 k, .int .i64 n, .string s, .slice (some ⟨b2, off2, none⟩) l.length c1] 25) (.cells #[.int .i64 xk, .int .i64 xn, .string xs, .slice xa xm xc] 25) (.cells #[.int .i64 0, .int .i64 0, .string ⟨#[]⟩, .slice none 0 0] 25)).alloc (by simp; omega) _
    have hn5 : ∀ j u, news[j]? = some u → ((((w.alloc (.cells #[.int .i64 k, .int .i64 n, .string s, .slice (some ⟨b2, off2, none⟩) l.length c1] 25)).alloc (.cells #[.int .i64 xk, .int .i64 xn, .string xs, .slice xa xm xc] 25)).alloc (.cells #[.int .i64 0, .int .i64 0, .string ⟨#[]⟩, .slice none 0 0] 25)).alloc (.cells #[.int .i64 k, .int .i64 n, .string s, .slice none 0 0] 25)).cell? ((⟨b2, off2, none⟩ : Addr).add j) = some u := fun j u h => by
      rw [Addr.add_lit]
      exact (hBA.cell (p := ⟨b2, off2 + j, none⟩) (show b2 < w.heap.size by omega)).trans (hn2 j u h)
    have hn6 : 0 + l.length ≤ maxLen := by unfold maxLen; omega
    have hn7 : (0 + l.length) * 56 ≤ 140737488355328 := by omega
    have hn8 : w.heap.size + 4 ≤ ((((w.alloc (.cells #[.int .i64 k, .int .i64 n, .string s, .slice (some ⟨b2, off2, none⟩) l.length c1] 25)).alloc (.cells #[.int .i64 xk, .int .i64 xn, .string xs, .slice xa xm xc] 25)).alloc (.cells #[.int .i64 0, .int .i64 0, .string ⟨#[]⟩, .slice none 0 0] 25)).alloc (.cells #[.int .i64 k, .int .i64 n, .string s, .slice none 0 0] 25)).heap.size := by simp
    have hbx : Box ((((w.alloc (.cells #[.int .i64 k, .int .i64 n, .string s, .slice (some ⟨b2, off2, none⟩) l.length c1] 25)).alloc (.cells #[.int .i64 xk, .int .i64 xn, .string xs, .slice xa xm xc] 25)).alloc (.cells #[.int .i64 0, .int .i64 0, .string ⟨#[]⟩, .slice none 0 0] 25)).alloc (.cells #[.int .i64 k, .int .i64 n, .string s, .slice none 0 0] 25)) w.heap.size #[.int .i64 k, .int .i64 n, .string s, .slice (some ⟨b2, off2, none⟩) l.length c1] 25 := (((Box.at rfl).alloc _).alloc _).alloc _
    have hbX : Box ((((w.alloc (.cells #[.int .i64 k, .int .i64 n, .string s, .slice (some ⟨b2, off2, none⟩) l.length c1] 25)).alloc (.cells #[.int .i64 xk, .int .i64 xn, .string xs, .slice xa xm xc] 25)).alloc (.cells #[.int .i64 0, .int .i64 0, .string ⟨#[]⟩, .slice none 0 0] 25)).alloc (.cells #[.int .i64 k, .int .i64 n, .string s, .slice none 0 0] 25)) (w.heap.size + 1) #[.int .i64 xk, .int .i64 xn, .string xs, .slice xa xm xc] 25 := ((Box.at (by simp)).alloc _).alloc _
    have hbz : Box ((((w.alloc (.cells #[.int .i64 k, .int .i64 n, .string s, .slice (some ⟨b2, off2, none⟩) l.length c1] 25)).alloc (.cells #[.int .i64 xk, .int .i64 xn, .string xs, .slice xa xm xc] 25)).alloc (.cells #[.int .i64 0, .int .i64 0, .string ⟨#[]⟩, .slice none 0 0] 25)).alloc (.cells #[.int .i64 k, .int .i64 n, .string s, .slice none 0 0] 25)) (w.heap.size + 1 + 1) #[.int .i64 0, .int .i64 0, .string ⟨#[]⟩, .slice none 0 0] 25 := (Box.at (by simp)).alloc _
    have hbo : Box ((((w.alloc (.cells #[.int .i64 k, .int .i64 n, .string s, .slice (some ⟨b2, off2, none⟩) l.length c1] 25)).alloc (.cells #[.int .i64 xk, .int .i64 xn, .string xs, .slice xa xm xc] 25)).alloc (.cells #[.int .i64 0, .int .i64 0, .string ⟨#[]⟩, .slice none 0 0] 25)).alloc (.cells #[.int .i64 k, .int .i64 n, .string s, .slice none 0 0] 25)) (w.heap.size + 1 + 1 + 1) #[.int .i64 k, .int .i64 n, .string s, .slice none 0 0] 25 := Box.at (by simp)
    have HA := Lib.hid (And.intro hBA (And.intro hbx (And.intro hbX (And.intro hbz hbo))))
    clear hBA hbx hbX hbz hbo
    gi_wp2_with (gi_at_builtin; refine wpListIn_append_where _ rfl _ _ 22 rfl (w.heap.size + 4) 25 i0 _ 4 56 Tryd.underlying22 hi hz0 hz1 hz2 rfl (by decide) _ _ _ rfl (World.ownsRow_nil _ _ _ _) ⟨b2, off2, none⟩ l.length c1 news rfl hn1 hn5 hn3 hn6 hn7 hn8 ?_)
    intro v2 W2 hown hgrow hwh
    obtain ⟨hBA, hbx, hbX, hbz, hbo⟩ := HA.out
    have hs2 := hgrow.size
    simp only [World.size_alloc] at hs2
    have hB2 : Below w.heap.size w W2 := hBA.trans (grown_below' hgrow (by simp; omega) (fun g hg => by cases hg))
    replace hbx : Box W2 _ _ _ := (hgrow.block _ hbx.lt (by simp [Value.ownBlock])).trans hbx
    replace hbX : Box W2 _ _ _ := (hgrow.block _ hbX.lt (by simp [Value.ownBlock])).trans hbX
    replace hbz : Box W2 _ _ _ := (hgrow.block _ hbz.lt (by simp [Value.ownBlock])).trans hbz
    replace hbo : Box W2 _ _ _ := (hgrow.block _ hbo.lt (by simp [Value.ownBlock])).trans hbo
    obtain ⟨g, cap, rfl⟩ : ∃ g cap, v2 = .slice (some ⟨g, 0, none⟩) l.length cap := by
      rcases hown.2 with ⟨_, h0⟩ | ⟨g, cap, cur, e, _⟩
      · omega
      · exact ⟨g, cap, e⟩
    have hgl := hown.lt g rfl
    have o0 := hbo.cell 0
    have o1 := hbo.cell 1
    have o2 := hbo.cell 2
    have o3 := hbo.cell 3
    have g0 := hbo.frozen 3
    have lo := hbo.lt
    simp only [List.getElem?_toArray, List.getElem?_cons_succ, List.getElem?_cons_zero] at o0 o1 o2 o3
    have HB := Lib.hid (And.intro hown (And.intro hB2 (And.intro hbx (And.intro hbX (And.intro hbz hbo)))))
    clear hown hB2 hbx hbX hbz hbo hgrow hwh hBA HA hn5
    gi_wp2_with fail
    have hKB : World.grownBy W2 (W2.setCell ⟨w.heap.size + 1 + 1 + 1, 3, none⟩ (.slice (some ⟨g, 0, none⟩) l.length cap)) (some (w.heap.size + 1 + 1 + 1)) := ⟨rfl, rfl, rfl, by simp, fun j _ hj => Below.heap_setCell W2 _ _ j (fun e => hj (by rw [e]))⟩
    obtain ⟨hown, hB2, hbx, hbX, hbz, hbo⟩ := HB.out
    have hown' := hown.kept hKB (.inr (fun e => by have := (hown.lt _ e).1; omega))
    have hBB : Below w.heap.size w (W2.setCell ⟨w.heap.size + 1 + 1 + 1, 3, none⟩ (.slice (some ⟨g, 0, none⟩) l.length cap)) := hB2.setCell (p := ⟨w.heap.size + 1 + 1 + 1, 3, none⟩) (show w.heap.size ≤ w.heap.size + 1 + 1 + 1 by omega) _
    replace hbx : Box (W2.setCell ⟨w.heap.size + 1 + 1 + 1, 3, none⟩ (.slice (some ⟨g, 0, none⟩) l.length cap)) w.heap.size #[.int .i64 k, .int .i64 n, .string s, .slice (some ⟨b2, off2, none⟩) l.length c1] 25 := (Below.heap_setCell W2 _ _ _ (show w.heap.size ≠ w.heap.size + 1 + 1 + 1 by omega)).trans hbx
    replace hbX : Box (W2.setCell ⟨w.heap.size + 1 + 1 + 1, 3, none⟩ (.slice (some ⟨g, 0, none⟩) l.length cap)) (w.heap.size + 1) #[.int .i64 xk, .int .i64 xn, .string xs, .slice xa xm xc] 25 := (Below.heap_setCell W2 _ _ _ (show w.heap.size + 1 ≠ w.heap.size + 1 + 1 + 1 by omega)).trans hbX
    replace hbz : Box (W2.setCell ⟨w.heap.size + 1 + 1 + 1, 3, none⟩ (.slice (some ⟨g, 0, none⟩) l.length cap)) (w.heap.size + 1 + 1) #[.int .i64 0, .int .i64 0, .string ⟨#[]⟩, .slice none 0 0] 25 := (Below.heap_setCell W2 _ _ _ (show w.heap.size + 1 + 1 ≠ w.heap.size + 1 + 1 + 1 by omega)).trans hbz
    replace hbo : Box (W2.setCell ⟨w.heap.size + 1 + 1 + 1, 3, none⟩ (.slice (some ⟨g, 0, none⟩) l.length cap)) (w.heap.size + 1 + 1 + 1) #[.int .i64 k, .int .i64 n, .string s, .slice (some ⟨g, 0, none⟩) l.length cap] 25 := hbo.set 3 _
    have HC := Lib.hid (And.intro hown' (And.intro hBB (And.intro hbx (And.intro hbX (And.intro hbz hbo)))))
    clear hown hown' hB2 hBB hbx hbX hbz hbo hKB HB o0 o1 o2 o3 g0 lo
    have hsB : W2.heap.size ≤ (W2.setCell ⟨w.heap.size + 1 + 1 + 1, 3, none⟩ (.slice (some ⟨g, 0, none⟩) l.length cap)).heap.size := by simp
    generalize (W2.setCell ⟨w.heap.size + 1 + 1 + 1, 3, none⟩ (.slice (some ⟨g, 0, none⟩) l.length cap)) = WB at *
    obtain ⟨tk, tn, tss, tl, ta, tc, te, d0, d1, d2, d3, ht⟩ := HW.out.2.2.1.node' hb2 (HC.out.2.1.mono hn) q hq
    have x3 := HC.out.2.2.1.cell 3
    have y0 := HC.out.2.2.2.1.cell 0
    have y1 := HC.out.2.2.2.1.cell 1
    have y2 := HC.out.2.2.2.1.cell 2
    have y3 := HC.out.2.2.2.1.cell 3
    have o3 := HC.out.2.2.2.2.2.cell 3
    have hx0' := ((HC.out.2.1.mono hn).cell (p := ⟨b, off, none⟩) hbl).trans hx0
    have lb : b < WB.heap.size := by have := HC.out.2.1.size; omega
    have lb2 : b2 < WB.heap.size := by have := HC.out.2.1.size; omega
    have lx := HC.out.2.2.1.lt
    have lX := HC.out.2.2.2.1.lt
    have lz := HC.out.2.2.2.2.1.lt
    have lo := HC.out.2.2.2.2.2.lt
    simp only [List.getElem?_toArray, List.getElem?_cons_succ, List.getElem?_cons_zero] at x3 y0 y1 y2 y3 o3
    have HT := Lib.hid (And.intro te ht)
    clear te ht hx0
    obtain ⟨A2, hA2⟩ : ∃ A2 : Option Addr, (if c = 1 then some (⟨b, off, none⟩ : Addr) else some ⟨b, off + 1, none⟩) = A2 := ⟨_, rfl⟩
    have hA3 : Hid (0 < p'.length → A2 = some ⟨b, off + 1, none⟩) := fun h0 => by
      simp only [List.length_cons] at hpc
      rw [← hA2, if_neg (by omega)]
    have h1p : (1 : Int) ≤ (p'.length : Int) + 1 := by omega
    refine wpIn_region_mono_tail 16 [.det (.pointer (some ⟨w.heap.size + 1 + 1 + 1, 3, none⟩)), .det (.slice (some ⟨g, 0, none⟩) l.length cap), .det (.slice (some ⟨b, off, none⟩) (p'.length + 1) c), .det (.pointer (some ⟨b, off, none⟩)), .det (.int .i64 q), .det (.pointer (some ⟨w.heap.size, 3, none⟩)), .det (.slice (some ⟨b2, off2, none⟩) l.length c1), .det (.slice (some ⟨b, off, none⟩) (p'.length + 1) c), .det (.pointer (some ⟨b, off, none⟩)), .det (.int .i64 q), .det (.pointer (some ⟨b2, off2 + q * 4, none⟩)), .det (.agg #[.int .i64 tk, .int .i64 tn, .string tss, .slice ta tl.length tc]), .det (.slice (some ⟨b, off, none⟩) (p'.length + 1) c), .det (.slice A2 p'.length (c - 1)), .det (.agg #[.int .i64 xk, .int .i64 xn, .string xs, .slice xa xm xc]), .any (WtV n₀ WB.heap.size (withT p' l[q] X))] hf hd (fun k f args w R h => callsIn_of_calls hF h) (by kernel_rfl) (by kernel_rfl) ?_ ?_
    · intro y hy
      simp only [List.mem_cons, List.not_mem_nil, or_false] at hy
      rcases hy with rfl | rfl | rfl | rfl | rfl | rfl | rfl | rfl | rfl | rfl | rfl | rfl | rfl | rfl | rfl | rfl <;> first | trivial | exact WtV.steady _ _ _
    simp only [List.take_succ_cons, List.take_zero, List.drop_succ_cons, List.drop_zero]
    iterate 15 (
      refine wpM_step (fun K hK => ?_)
      go_simp
      apply And.intro
      · intro w' hC _
        have q1 := hC.old.1
        have hbs := hC.old.2.2
        clear hC
        go_simp
        exact Ext.refl _
      refine nextM_det (hK _ _ ?_)
      clear hK K)
    refine wpM_step (fun K hK => ?_)
    go_simp
    apply And.intro
    · intro w' hC _
      have hs' := Below.size hC
      have hwB := HC.out.2.1.size
      have hBw := HC.out.2.1.trans (Below.mono hC hwB)
      have hcall := HW.out.2.2.2.2.2.2 p' l[q] (.agg #[.int .i64 tk, .int .i64 tn, .string tss, .slice ta tl.length tc]) (.agg #[.int .i64 xk, .int .i64 xn, .string xs, .slice xa xm xc]) A2 (c - 1) w' (by simpa using hm) (by omega) (HT.out.2.below (hBw.mono hn)) (HW.out.2.1.below (hBw.mono hn)) ⟨by simp only [List.length_cons] at hpc; omega, by omega, fun h0 => ⟨b, off + 1, hA3.out h0, hbl, fun j hj => ?_⟩⟩ HW.out.2.2.2.2.1 ?_
      · have HCL := Lib.hid hcall
        clear hcall hC
        go_simp
        refine ⟨Ext.refl _, HCL.out.mono ?_⟩
        rintro e w2' ⟨yk, yn, ys, ya, ym, yc, rfl, hP, hb'⟩
        exact ⟨_, rfl, hb', by omega, Nat.le_trans hs' hb'.size, IsP.map (fun z hz => ⟨⟨hz.1.imp id (fun h => by omega), hz.2⟩, rfl⟩) _ _ hP⟩
      · have := HW.out.2.2.2.1 (j + 1) (by simp; omega)
        rw [show off + 1 + j = off + (j + 1) by omega]
        exact ((hBw.mono hn).cell (p := ⟨b, off + (j + 1), none⟩) hbl).trans (by simpa using this)
      · have := size_mem (List.getElem_mem hq)
        simp only [Tr.size] at hsz
        omega
    refine nextM_any (fun u => hK _ _ ?_)
    clear hK K
    refine wpM_nil ?_
    intro w9 hC hE
    have hu : WtV n₀ WB.heap.size (withT p' l[q] X) u w9 := hE 15 u rfl
    clear hE
    obtain ⟨uk, un, us, ua, um, uc, rfl⟩ := hu.2.2.form
    have hown9 := HC.out.1.kept (grown_b none hC) (.inr (by simp [Value.ownBlock]))
    have hwr := with_row hown9 hq HW.out.2.2.2.2.2.1 ((HC.out.2.1.trans (Below.mono hC HC.out.2.1.size)).mono hn) (by omega) (by have := HC.out.2.1.size; have := Below.size hC; omega) (by omega) (by omega) hu.2.2
    obtain ⟨v0, v1, v2', v3, e0, e1, e2, e3, -⟩ := HW.out.2.2.2.2.2.1 q hq
    rw [← hown9.cellAt _ (by omega)] at e0 e1 e2 e3
    have f0 := hown9.frozenAt (q * 4)
    have f1 := hown9.frozenAt (q * 4 + 1)
    have f2 := hown9.frozenAt (q * 4 + 2)
    have f3 := hown9.frozenAt (q * 4 + 3)
    have pz := HC.out.2.2.2.2.1.keep hC
    have po := HC.out.2.2.2.2.2.keep hC
    have o0 := po.cell 0
    have o1 := po.cell 1
    have o2 := po.cell 2
    have o3 := po.cell 3
    have z0 := pz.cell 0
    have z1 := pz.cell 1
    have z2 := pz.cell 2
    have z3 := pz.cell 3
    have g0 := pz.frozen 0
    have g1 := pz.frozen 1
    have g2 := pz.frozen 2
    have g3 := pz.frozen 3
    simp only [List.getElem?_toArray, List.getElem?_cons_succ, List.getElem?_cons_zero] at o0 o1 o2 o3 z0 z1 z2 z3
    have hne1 : w.heap.size + 1 + 1 ≠ g := by omega
    have hne2 : w.heap.size + 1 + 1 + 1 ≠ g := by omega
    have hne3 : ¬ g = w.heap.size + 1 + 1 := by omega
    have hne4 : ¬ g = w.heap.size + 1 + 1 + 1 := by omega
    have HR := Lib.hid (And.intro hwr (And.intro pz (HC.out.2.1.trans (Below.mono hC HC.out.2.1.size))))
    clear hwr pz po hown9 hu hC d0 d1 d2 d3 x3 y0 y1 y2 y3
    have hfin : Box ((((((((w9.setCell ⟨g, q * 4, none⟩ (.int .i64 uk)).setCell ⟨g, q * 4 + 1, none⟩ (.int .i64 un)).setCell ⟨g, q * 4 + 2, none⟩ (.string us)).setCell ⟨g, q * 4 + 3, none⟩ (.slice ua um uc)).setCell ⟨w.heap.size + 1 + 1, 0, none⟩ (.int .i64 k)).setCell ⟨w.heap.size + 1 + 1, 1, none⟩ (.int .i64 n)).setCell ⟨w.heap.size + 1 + 1, 2, none⟩ (.string s)).setCell ⟨w.heap.size + 1 + 1, 3, none⟩ (.slice (some ⟨g, 0, none⟩) l.length cap)) (w.heap.size + 1 + 1) #[.int .i64 k, .int .i64 n, .string s, .slice (some ⟨g, 0, none⟩) l.length cap] 25 ∧ IsP (OA n₀ w.heap.size ((((((((w9.setCell ⟨g, q * 4, none⟩ (.int .i64 uk)).setCell ⟨g, q * 4 + 1, none⟩ (.int .i64 un)).setCell ⟨g, q * 4 + 2, none⟩ (.string us)).setCell ⟨g, q * 4 + 3, none⟩ (.slice ua um uc)).setCell ⟨w.heap.size + 1 + 1, 0, none⟩ (.int .i64 k)).setCell ⟨w.heap.size + 1 + 1, 1, none⟩ (.int .i64 n)).setCell ⟨w.heap.size + 1 + 1, 2, none⟩ (.string s)).setCell ⟨w.heap.size + 1 + 1, 3, none⟩ (.slice (some ⟨g, 0, none⟩) l.length cap))) ((((((((w9.setCell ⟨g, q * 4, none⟩ (.int .i64 uk)).setCell ⟨g, q * 4 + 1, none⟩ (.int .i64 un)).setCell ⟨g, q * 4 + 2, none⟩ (.string us)).setCell ⟨g, q * 4 + 3, none⟩ (.slice ua um uc)).setCell ⟨w.heap.size + 1 + 1, 0, none⟩ (.int .i64 k)).setCell ⟨w.heap.size + 1 + 1, 1, none⟩ (.int .i64 n)).setCell ⟨w.heap.size + 1 + 1, 2, none⟩ (.string s)).setCell ⟨w.heap.size + 1 + 1, 3, none⟩ (.slice (some ⟨g, 0, none⟩) l.length cap)) (withT ((q : Int) :: p') (.node k n s l) X) (.agg #[.int .i64 k, .int .i64 n, .string s, .slice (some ⟨g, 0, none⟩) l.length cap]) ∧ Below w.heap.size w ((((((((w9.setCell ⟨g, q * 4, none⟩ (.int .i64 uk)).setCell ⟨g, q * 4 + 1, none⟩ (.int .i64 un)).setCell ⟨g, q * 4 + 2, none⟩ (.string us)).setCell ⟨g, q * 4 + 3, none⟩ (.slice ua um uc)).setCell ⟨w.heap.size + 1 + 1, 0, none⟩ (.int .i64 k)).setCell ⟨w.heap.size + 1 + 1, 1, none⟩ (.int .i64 n)).setCell ⟨w.heap.size + 1 + 1, 2, none⟩ (.string s)).setCell ⟨w.heap.size + 1 + 1, 3, none⟩ (.slice (some ⟨g, 0, none⟩) l.length cap)) := by
      obtain ⟨⟨h1, h2, h3, h4, h5, h6⟩, pz, hB9⟩ := HR.out
      have hs9 : w.heap.size ≤ w9.heap.size := hB9.size
      have hzU : Box ((((w9.setCell ⟨g, q * 4, none⟩ (.int .i64 uk)).setCell ⟨g, q * 4 + 1, none⟩ (.int .i64 un)).setCell ⟨g, q * 4 + 2, none⟩ (.string us)).setCell ⟨g, q * 4 + 3, none⟩ (.slice ua um uc)) (w.heap.size + 1 + 1) #[.int .i64 0, .int .i64 0, .string ⟨#[]⟩, .slice none 0 0] 25 := (h6.block _ (by omega)).trans pz
      refine ⟨hzU.four _ _ _ _, ?_, below_four (hB9.trans (h6.mono (by omega))) (by omega) _ _ _ _⟩
      have hm := IsPL.map (q := OA n₀ w.heap.size ((((((((w9.setCell ⟨g, q * 4, none⟩ (.int .i64 uk)).setCell ⟨g, q * 4 + 1, none⟩ (.int .i64 un)).setCell ⟨g, q * 4 + 2, none⟩ (.string us)).setCell ⟨g, q * 4 + 3, none⟩ (.slice ua um uc)).setCell ⟨w.heap.size + 1 + 1, 0, none⟩ (.int .i64 k)).setCell ⟨w.heap.size + 1 + 1, 1, none⟩ (.int .i64 n)).setCell ⟨w.heap.size + 1 + 1, 2, none⟩ (.string s)).setCell ⟨w.heap.size + 1 + 1, 3, none⟩ (.slice (some ⟨g, 0, none⟩) l.length cap))) (B := ((((((((w9.setCell ⟨g, q * 4, none⟩ (.int .i64 uk)).setCell ⟨g, q * 4 + 1, none⟩ (.int .i64 un)).setCell ⟨g, q * 4 + 2, none⟩ (.string us)).setCell ⟨g, q * 4 + 3, none⟩ (.slice ua um uc)).setCell ⟨w.heap.size + 1 + 1, 0, none⟩ (.int .i64 k)).setCell ⟨w.heap.size + 1 + 1, 1, none⟩ (.int .i64 n)).setCell ⟨w.heap.size + 1 + 1, 2, none⟩ (.string s)).setCell ⟨w.heap.size + 1 + 1, 3, none⟩ (.slice (some ⟨g, 0, none⟩) l.length cap))) (fun b hb => ⟨⟨hb.1.imp id (fun h => by omega), by simpa using hb.2⟩, heap_four (by rcases hb.1 with h | h <;> omega) _ _ _ _⟩) _ _ h1
      have hr := IsP.mk HK.out.1 HK.out.2.1 HK.out.2.2 (by rw [List.length_set]; exact h2) h3 hm (n := n)
      rw [List.length_set] at hr
      have hw : withT ((q : Int) :: p') (.node k n s l) X = .node k n s (l.set q (withT p' l[q] X)) := by
        rw [withT, Int.toNat_natCast, List.getD, List.getElem?_eq_getElem hq, Option.getD_some]
      rw [hw]
      exact hr
    have HF := Lib.hid hfin
    clear hfin
    gi_wp2_with fail
    clear e0 e1 e2 e3 f0 f1 f2 f3 o0 o1 o2 o3 z0 z1 z2 z3 g0 g1 g2 g3
    have y0 := HF.out.1.cell 0
    have y1 := HF.out.1.cell 1
    have y2 := HF.out.1.cell 2
    have y3 := HF.out.1.cell 3
    generalize (((((((w9.setCell ⟨g, q * 4, none⟩ (.int .i64 uk)).setCell ⟨g, q * 4 + 1, none⟩ (.int .i64 un)).setCell ⟨g, q * 4 + 2, none⟩ (.string us)).setCell ⟨g, q * 4 + 3, none⟩ (.slice ua um uc)).setCell ⟨w.heap.size + 1 + 1, 0, none⟩ (.int .i64 k)).setCell ⟨w.heap.size + 1 + 1, 1, none⟩ (.int .i64 n)).setCell ⟨w.heap.size + 1 + 1, 2, none⟩ (.string s)).setCell ⟨w.heap.size + 1 + 1, 3, none⟩ (.slice (some ⟨g, 0, none⟩) l.length cap) = FW at *
    simp at y0 y1 y2 y3
    exact bodyPost_ret (v := .agg #[.int .i64 k, .int .i64 n, .string s, .slice (some ⟨g, 0, none⟩) l.length cap]) (by simp [results, Tryd.results90, go_sem, y0, y1, y2, y3]) rfl ⟨_, _, _, _, _, _, rfl, HF.out.2.1, HF.out.2.2⟩
end Go.Proofs.YtdigiaigbcfccaaDoor
