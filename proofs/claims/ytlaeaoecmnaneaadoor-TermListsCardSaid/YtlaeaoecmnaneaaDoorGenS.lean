/- The least general term of two: the second reading of general. -/
import Derived.Test.YtlaeaoecmnaneaaDoorPairs
namespace Go.Proofs.YtlaeaoecmnaneaaDoor
open Go.RowKit Go

attribute [local go_sem] Oper.semAt_some uponP Yld.says monoUpon

theorem refVarG_any (n : Int) (w : World) : Calls Tryd.prog 101 #[.int .i64 n] w fun e w' => e = .returned (.agg #[.int .i64 1, .int .i64 n, .string ⟨#[]⟩, .slice none 0 0]) ∧ Below w.heap.size w w' := by
  go_enter Tryd.func101, Tryd.ntmps101
  go_wp2_with fail
  exact bodyPost_ret (v := .agg #[.int .i64 1, .int .i64 n, .string ⟨#[]⟩, .slice none 0 0]) (by simp [results, Tryd.results101, go_sem]) rfl ⟨rfl, below_a1 (Nat.le_refl _) _⟩
theorem zip_key {la lb : List Tr} {j : Nat} (h1 : j < la.length) (h2 : j < lb.length) : (List.zipWith key2 la lb)[j]? = some (key2 la[j] lb[j]) := by
  rw [List.getElem?_zipWith]
  simp [List.getElem?_eq_getElem h1, List.getElem?_eq_getElem h2]
theorem zip_take {la lb : List Tr} {j : Nat} (h1 : j < la.length) (h2 : j < lb.length) : (List.zipWith key2 la lb).take (j + 1) = (List.zipWith key2 la lb).take j ++ [key2 la[j] lb[j]] := by
  rw [List.take_add_one, zip_key h1 h2]
  rfl
theorem numK_at {ks : List (List UInt8)} {key : List UInt8} {j : Nat} (h : ks[j]? = some key) (hno : key ∉ ks.take j) : numK ks key = j ∧ addK ks key = ks := by
  obtain ⟨hj, hk⟩ := List.getElem?_eq_some_iff.1 h
  have hm : key ∈ ks := hk ▸ List.getElem_mem hj
  have hi : ks.idxOf key = j := by
    have e : ks = ks.take j ++ ks.drop j := (List.take_append_drop j ks).symm
    rw [e, List.idxOf_append, if_neg hno, List.length_take, Nat.min_eq_left (Nat.le_of_lt hj), List.drop_eq_getElem_cons hj, hk, List.idxOf_cons_self]
    omega
  rw [numK, addK, if_pos hm, if_pos hm, hi]
  exact ⟨rfl, rfl⟩
theorem GsAt.fin {n₀ P : Nat} {w : World} {va vb : Value} {pc tc : Array Value} {ua ub : Value} {la lb la' lb' : List Tr} {wr : World} {X U : Tr} (h : GsAt n₀ P w va vb pc tc ua ub la' lb' wr) (hl : la'.length = lb'.length) (num : Int) (hnum : okI num)
    (hg : genT X U (List.zipWith key2 la lb) = (.node 1 num emp [], List.zipWith key2 la' lb')) (a0 a1 a2 a3 : Value) : GgPost n₀ P X U va vb la lb w (.returned (.agg #[.int .i64 1, .int .i64 num, .string ⟨#[]⟩, .slice none 0 0])) ((((wr.setCell ⟨w.heap.size + 1 + 1, 0, none⟩ a0).setCell ⟨w.heap.size + 1 + 1, 1, none⟩ a1).setCell ⟨w.heap.size + 1 + 1, 2, none⟩ a2).setCell ⟨w.heap.size + 1 + 1, 3, none⟩ a3) := by
  have hz := h.b2.lt
  have hf := h.far (b := w.heap.size + 1 + 1) (by omega) (by omega)
  have hn := h.hn
  refine ⟨_, _, _, _, _, _, ua, ub, la', lb', rfl, h.prs.atB (fun b _ hb => heap_four (fun e => ?_) _ _ _ _) (below_four (Below.refl _ _) (by omega) _ _ _ _), hl, by rw [hg], ?_, ⟨?_, ?_, ?_, ?_, fun k hk h1 h2 h3 => ?_⟩, fun b e => (h.fa b e).imp id (fun h => by omega), fun b e => (h.fb b e).imp id (fun h => by omega), by simp; omega⟩
  · subst e
    rcases hb with hb | hb | hb
    · exact hf.1 hb
    · exact hf.2.1 hb
    · exact hf.2.2 hb
  · rw [hg]
    exact IsP.mk (l := []) (by unfold okI; omega) hnum (by decide) (Nat.le_refl _) (by decide) IsPL.nil
  · exact h.k3.os
  · exact h.k3.tape
  · exact h.k3.output
  · simpa using h.k3.size
  · rw [heap_four (by omega)]
    exact h.k3.block k hk h1 h2 h3
theorem appG_fr {v : Value} {H G : Nat} (h : appG v H = G) : v.ownBlock = some G ∨ G = H := by
  unfold appG at h
  split at h
  · split at h
    · exact .inl (by rw [Value.ownBlock, h])
    · exact .inr h.symm
  · exact .inr h.symm
theorem GsAt.pushA {n₀ P : Nat} {w : World} {va vb : Value} {pc tc : Array Value} {ua ub : Value} {la lb : List Tr} {wr w3 : World} (h : GsAt n₀ P w va vb pc tc ua ub la lb wr) {G m cap : Nat} {fs : List Tr} (hG : appG ua (wr.heap.size + 1) = G) (hg : K3 wr w3 P ua ua) (hr : RowF n₀ w3 (.slice (some ⟨G, 0, none⟩) m cap) fs) (hbox : Box w3 P #[.slice (some ⟨G, 0, none⟩) m cap, ub] 135) :
    GsAt n₀ P w va vb pc tc (.slice (some ⟨G, 0, none⟩) m cap) ub fs lb w3 := by
  have hp := h.prs
  have hfr := appG_fr hG
  have hk : K3 wr w3 P ua ub := ⟨hg.os, hg.tape, hg.output, hg.size, fun k hk h1 h2 _ => hg.block k hk h1 h2 h2⟩
  have hB : Below n₀ wr w3 := ⟨hg.os, hg.tape, hg.output, hg.size, fun b hb => hg.block b (by have := h.hn; have := h.k3.size; omega) (fun e => by have := hp.hP; omega) (fun e => by have := (hp.ra.lt b e.symm).1; omega) (fun e => by have := (hp.ra.lt b e.symm).1; omega)⟩
  refine h.move hk ⟨hbox, hr, hp.rb.atB (fun g e => hg.block g (hp.rb.lt g e).2 (fun e' => by subst e'; exact hp.ne.2 e.symm) (fun e' => hp.apart g e'.symm e) (fun e' => hp.apart g e'.symm e)) hB, fun b e e' => ?_, hp.hP⟩ (fun b e => ?_) (fun _ e => .inl e)
  · cases e
    rcases hfr with h1 | h1
    · exact hp.apart G h1 e'
    · have := (hp.rb.lt G e').2; omega
  · cases e
    rcases hfr with h1 | h1
    · exact .inl h1
    · exact .inr (show wr.heap.size ≤ G by omega)
theorem GsAt.pushB {n₀ P : Nat} {w : World} {va vb : Value} {pc tc : Array Value} {ua ub : Value} {la lb : List Tr} {wr w3 : World} (h : GsAt n₀ P w va vb pc tc ua ub la lb wr) {G m cap : Nat} {fs : List Tr} (hG : appG ub (wr.heap.size + 1) = G) (hg : K3 wr w3 P ub ub) (hr : RowF n₀ w3 (.slice (some ⟨G, 0, none⟩) m cap) fs) (hbox : Box w3 P #[ua, .slice (some ⟨G, 0, none⟩) m cap] 135) :
    GsAt n₀ P w va vb pc tc ua (.slice (some ⟨G, 0, none⟩) m cap) la fs w3 := by
  have hp := h.prs
  have hfr := appG_fr hG
  have hk : K3 wr w3 P ua ub := ⟨hg.os, hg.tape, hg.output, hg.size, fun k hk h1 _ h2 => hg.block k hk h1 h2 h2⟩
  have hB : Below n₀ wr w3 := ⟨hg.os, hg.tape, hg.output, hg.size, fun b hb => hg.block b (by have := h.hn; have := h.k3.size; omega) (fun e => by have := hp.hP; omega) (fun e => by have := (hp.rb.lt b e.symm).1; omega) (fun e => by have := (hp.rb.lt b e.symm).1; omega)⟩
  refine h.move hk ⟨hbox, hp.ra.atB (fun g e => hg.block g (hp.ra.lt g e).2 (fun e' => by subst e'; exact hp.ne.1 e.symm) (fun e' => hp.apart g e e'.symm) (fun e' => hp.apart g e e'.symm)) hB, hr, fun b e e' => ?_, hp.hP⟩ (fun _ e => .inl e) (fun b e => ?_)
  · cases e'
    rcases hfr with h1 | h1
    · exact hp.apart G e h1
    · have := (hp.ra.lt G e).2; omega
  · cases e
    rcases hfr with h1 | h1
    · exact .inl h1
    · exact .inr (show wr.heap.size ≤ G by omega)
/-- The four stores of an element. -/
def st4 (G j : Nat) (e0 e1 e2 e3 : Value) (w : World) : World := (((w.setCell ⟨G, j * 4, none⟩ e0).setCell ⟨G, j * 4 + 1, none⟩ e1).setCell ⟨G, j * 4 + 2, none⟩ e2).setCell ⟨G, j * 4 + 3, none⟩ e3
theorem st4_own {n₀ G j cap : Nat} {xs zs : List Value} {e0 e1 e2 e3 : Value} {w : World} (hx : xs.length = j * 4) (hz : zs.length = 4) (h : w.ownsRow n₀ 25 4 (.slice (some ⟨G, 0, none⟩) (j + 1) cap) (j + 1) (xs ++ zs)) :
    (st4 G j e0 e1 e2 e3 w).ownsRow n₀ 25 4 (.slice (some ⟨G, 0, none⟩) (j + 1) cap) (j + 1) (xs ++ [e0, e1, e2, e3]) ∧ w.grownBy (st4 G j e0 e1 e2 e3 w) (some G) := by
  obtain ⟨o1, g1⟩ := h.stored (j * 4) e0
  obtain ⟨o2, g2⟩ := o1.stored (j * 4 + 1) e1
  obtain ⟨o3, g3⟩ := o2.stored (j * 4 + 2) e2
  obtain ⟨o4, g4⟩ := o3.stored (j * 4 + 3) e3
  refine ⟨?_, grown_trans (grown_trans (grown_trans g1 g2) g3) g4⟩
  match zs, hz with
  | [z0, z1, z2, z3], _ =>
    have e : ((((xs ++ [z0, z1, z2, z3]).set (j * 4) e0).set (j * 4 + 1) e1).set (j * 4 + 2) e2).set (j * 4 + 3) e3 = xs ++ [e0, e1, e2, e3] := by
      rw [← hx]
      rw [List.set_append_right _ _ (by omega), List.set_append_right _ _ (by omega), List.set_append_right _ _ (by omega), List.set_append_right _ _ (by omega)]
      simp
    rw [← e]
    exact o4
theorem own_cap {w : World} {n₀ G n cap cap' : Nat} {xs xs' : List Value} (h : w.ownsRow n₀ 25 4 (.slice (some ⟨G, 0, none⟩) n cap) n xs) (k : w.ownsRow n₀ 25 4 (.slice (some ⟨G, 0, none⟩) n cap') n xs') : cap = cap' := by
  rcases h.2 with ⟨e, _⟩ | ⟨g, c, cur, e, _, hg, _, _, hs, _⟩
  · cases e
  rcases k.2 with ⟨e', _⟩ | ⟨g', c', cur', e', _, hg', _, _, hs', _⟩
  · cases e'
  cases e
  cases e'
  rw [hg] at hg'
  cases hg'
  omega
/-- The phases of the region: ahead of the element's slice, ahead of the append, behind it. -/
def PC3 (n₀ P : Nat) (wr : World) (v : Value) (cs : Value → Array Value) (G j : Nat) (xs : List Value) : Nat → World → Prop
  | 0, w => w.heap.size = wr.heap.size ∧ Below wr.heap.size wr w
  | 1, w => w.heap.size = wr.heap.size + 1 ∧ Below wr.heap.size wr w ∧ Box w wr.heap.size #[.int .i64 0, .int .i64 0, .string ⟨#[]⟩, .slice none 0 0] 25
  | _, w => K3 wr w P v v ∧ (∃ x, Box w P (cs x) 135) ∧ ∃ cap zs, zs.length = 4 ∧ w.ownsRow n₀ 25 4 (.slice (some ⟨G, 0, none⟩) (j + 1) cap) (j + 1) (xs ++ zs)
def PV7 (n₀ G j : Nat) (xs : List Value) (v : Value) (W : World) : Prop := ∃ cap zs, v = .slice (some ⟨G, 0, none⟩) (j + 1) cap ∧ zs.length = 4 ∧ W.ownsRow n₀ 25 4 v (j + 1) (xs ++ zs)
def PV9 (n₀ G j : Nat) (xs : List Value) (e0 e1 e2 e3 : Value) (_ : Value) (W : World) : Prop := ∃ cap, W.ownsRow n₀ 25 4 (.slice (some ⟨G, 0, none⟩) (j + 1) cap) (j + 1) (xs ++ [e0, e1, e2, e3])
def PV12 (n₀ P : Nat) (cs : Value → Array Value) (G j : Nat) (xs : List Value) (_ : Value) (W : World) : Prop := ∃ v, PV7 n₀ G j xs v W ∧ Box W P (cs v) 135
def PR3 (n₀ P i G j : Nat) (xs : List Value) (e0 e1 e2 e3 : Value) : Nat → World → World → Prop
  | 0, _, _ => True
  | 1, _, _ => True
  | _, w, w' => w' = w ∨ w' = st4 G j e0 e1 e2 e3 w ∨ ∃ x, PV7 n₀ G j xs x w ∧ w' = w.setCell ⟨P, i, none⟩ x
def late3 (i : Nat) : Bool := i == 7 || i == 8 || i == 9 || i == 12
def early3 (i : Nat) : Bool := decide (i ≤ 6)
theorem own_far {w : World} {n₀ P G i n cap : Nat} {xs : List Value} (hPG : P ≠ G) (x : Value) (h : w.ownsRow n₀ 25 4 (.slice (some ⟨G, 0, none⟩) n cap) n xs) : (w.setCell ⟨P, i, none⟩ x).ownsRow n₀ 25 4 (.slice (some ⟨G, 0, none⟩) n cap) n xs :=
  h.kept (grown_set P i w x) (.inr (fun e => hPG (by cases e; rfl)))
theorem PV7.stable {n₀ P i G j : Nat} {xs : List Value} (hx : xs.length = j * 4) (hPG : P ≠ G) (e0 e1 e2 e3 : Value) : (Yld.any (PV7 n₀ G j xs)).stableP (PR3 n₀ P i G j xs e0 e1 e2 e3 2) := fun v w w' he ⟨cap, zs, h1, h2, h3⟩ => by
  rcases he with rfl | rfl | ⟨x, _, rfl⟩
  · exact ⟨cap, zs, h1, h2, h3⟩
  · subst h1
    exact ⟨cap, _, rfl, rfl, (st4_own hx h2 h3).1⟩
  · subst h1
    exact ⟨cap, zs, rfl, h2, own_far hPG x h3⟩
theorem PV9.stable {n₀ P i G j : Nat} {xs : List Value} (hx : xs.length = j * 4) (hPG : P ≠ G) (e0 e1 e2 e3 : Value) : (Yld.any (PV9 n₀ G j xs e0 e1 e2 e3)).stableP (PR3 n₀ P i G j xs e0 e1 e2 e3 2) := fun v w w' he ⟨cap, h3⟩ => by
  rcases he with rfl | rfl | ⟨x, _, rfl⟩
  · exact ⟨cap, h3⟩
  · exact ⟨cap, (st4_own hx rfl h3).1⟩
  · exact ⟨cap, own_far hPG x h3⟩
theorem PV7.one {n₀ G j : Nat} {xs : List Value} {v v' : Value} {W : World} (h : PV7 n₀ G j xs v W) (k : PV7 n₀ G j xs v' W) : v = v' := by
  obtain ⟨cap, zs, rfl, _, h3⟩ := h
  obtain ⟨cap', zs', rfl, _, k3⟩ := k
  rw [own_cap h3 k3]
theorem PV12.stable {n₀ P i G j : Nat} {xs : List Value} {cs : Value → Array Value} (hcs : ∀ y x, (cs y).setIfInBounds i x = cs x) (hx : xs.length = j * 4) (hPG : P ≠ G) (e0 e1 e2 e3 : Value) : (Yld.any (PV12 n₀ P cs G j xs)).stableP (PR3 n₀ P i G j xs e0 e1 e2 e3 2) := fun u w w' he ⟨v, h7, hb⟩ => by
  have h7' := PV7.stable (n₀ := n₀) (P := P) (i := i) (G := G) hx hPG e0 e1 e2 e3 v w w' he h7
  rcases he with rfl | rfl | ⟨x, hx7, rfl⟩
  · exact ⟨v, h7', hb⟩
  · obtain ⟨cap, zs, rfl, hz, h3⟩ := h7
    exact ⟨_, h7', ((st4_own hx hz h3).2.block P hb.lt (fun e => hPG (by cases e; rfl))).trans hb⟩
  · refine ⟨v, h7', ?_⟩
    have := hb.set i x
    rw [hcs, ← h7.one hx7] at this
    exact (h7.one hx7) ▸ this
theorem p3_hys {n₀ P i₀ G j : Nat} {xs : List Value} {cs : Value → Array Value} (hcs : ∀ y x, (cs y).setIfInBounds i₀ x = cs x) (hx : xs.length = j * 4) (hPG : P ≠ G) (e0 e1 e2 e3 v0 v1 v2 v3 v4 v5 v6 v8 v10 v11 : Value) (i b : Nat) (h : late3 i = true → b = 2) :
    (([.det v0, .det v1, .det v2, .det v3, .det v4, .det v5, .det v6, .any (PV7 n₀ G j xs), .det v8, .any (PV9 n₀ G j xs e0 e1 e2 e3), .det v10, .det v11, .any (PV12 n₀ P cs G j xs)] : List Yld).getD i (.any fun _ _ => True)).stableP (PR3 n₀ P i₀ G j xs e0 e1 e2 e3 b) := by
  match i with
  | 0 => trivial
  | 1 => trivial
  | 2 => trivial
  | 3 => trivial
  | 4 => trivial
  | 5 => trivial
  | 6 => trivial
  | 7 => obtain rfl := h rfl; exact PV7.stable hx hPG e0 e1 e2 e3
  | 8 => trivial
  | 9 => obtain rfl := h rfl; exact PV9.stable hx hPG e0 e1 e2 e3
  | 10 => trivial
  | 11 => trivial
  | 12 => obtain rfl := h rfl; exact PV12.stable hcs hx hPG e0 e1 e2 e3
  | _ + 13 => exact fun _ _ _ _ _ => trivial
theorem PC3.start (n₀ P : Nat) (wr : World) (v : Value) (cs : Value → Array Value) (G j : Nat) (xs : List Value) : PC3 n₀ P wr v cs G j xs 0 { wr with drawn := wr.drawn + 1 } := ⟨rfl, rfl, rfl, rfl, Nat.le_refl _, fun _ _ => rfl⟩
theorem PR3.refl (n₀ P i G j : Nat) (xs : List Value) (e0 e1 e2 e3 : Value) (b : Nat) (w : World) : PR3 n₀ P i G j xs e0 e1 e2 e3 b w w := by
  match b with
  | 0 => trivial
  | 1 => trivial
  | _ + 2 => exact .inl rfl
/-- Ahead of the append all blocks lie as they lay. -/
theorem PC3.block {n₀ P : Nat} {wr w : World} {v : Value} {cs : Value → Array Value} {G j : Nat} {xs : List Value} {b : Nat} (hb : b < 2) (h : PC3 n₀ P wr v cs G j xs b w) {k : Nat} (hk : k < wr.heap.size) : w.heap[k]? = wr.heap[k]? := by
  match b with
  | 0 => exact h.2.block k hk
  | 1 => exact h.2.1.block k hk
theorem PC3.app {n₀ P : Nat} {wr w : World} {v : Value} {cs : Value → Array Value} {j : Nat} {xs : List Value} (h : PC3 n₀ P wr v cs (appG v (wr.heap.size + 1)) j xs 1 w) (hown : wr.ownsRow n₀ 25 4 v j xs) (hbx : ∃ x, Box wr P (cs x) 135) (hPv : some P ≠ v.ownBlock) (hj : j ≤ 1000000000) (hn : n₀ ≤ wr.heap.size) :
    ∃ v' w', (Builtin.append_ #[22, 22] 22 #[v, .slice (some ⟨wr.heap.size, 0, none⟩) 1 1]).run Tryd.prog w = .ok v' w' ∧ PC3 n₀ P wr v cs (appG v (wr.heap.size + 1)) j xs 2 w' ∧ PV7 n₀ (appG v (wr.heap.size + 1)) j xs v' w' := by
  obtain ⟨hs, hB, hbox⟩ := h
  have hown' : w.ownsRow n₀ 25 4 v j xs := hown.kept (grown_b none hB) (by rcases v.ownBlock with _ | _ <;> simp)
  obtain ⟨cap, w', hr, h2, h3⟩ := append_at w n₀ v j xs hown' ⟨wr.heap.size, 0, none⟩ [.int .i64 0, .int .i64 0, .string ⟨#[]⟩, .slice none 0 0] rfl (cells_of_box hbox) (one_cells _ _ _ _ _ _) hj (by omega)
  rw [hs] at hr h2
  have hg := grown_step (grown_b v.ownBlock hB) h3
  obtain ⟨x, hx⟩ := hbx
  exact ⟨_, w', hr, ⟨⟨hg.os, hg.tape, hg.output, hg.size, fun k hk _ h2 _ => hg.block k hk h2⟩, ⟨x, (hg.block P hx.lt hPv).trans hx⟩, cap, _, rfl, h2⟩, cap, _, rfl, rfl, h2⟩
/-- The store of the element. -/
theorem PC3.elem {n₀ P : Nat} {wr w : World} {v : Value} {cs : Value → Array Value} {G j cap : Nat} {xs zs : List Value} (hx : xs.length = j * 4) (hPG : P ≠ G) (hG : v.ownBlock = some G ∨ wr.heap.size ≤ G) (h1 : K3 wr w P v v) (h2 : ∃ x, Box w P (cs x) 135) (hz : zs.length = 4) (h3 : w.ownsRow n₀ 25 4 (.slice (some ⟨G, 0, none⟩) (j + 1) cap) (j + 1) (xs ++ zs)) (e0 e1 e2 e3 : Value) :
    PC3 n₀ P wr v cs G j xs 2 (st4 G j e0 e1 e2 e3 w) ∧ PV9 n₀ G j xs e0 e1 e2 e3 undef (st4 G j e0 e1 e2 e3 w) := by
  have hst := st4_own (e0 := e0) (e1 := e1) (e2 := e2) (e3 := e3) hx hz h3
  obtain ⟨x, hb⟩ := h2
  refine ⟨⟨⟨hst.2.os.trans h1.os, hst.2.tape.trans h1.tape, hst.2.output.trans h1.output, Nat.le_trans h1.size hst.2.size, fun k hk k1 k2 k3 => (hst.2.block k (Nat.lt_of_lt_of_le hk h1.size) (fun e => ?_)).trans (h1.block k hk k1 k2 k3)⟩, ⟨x, (hst.2.block P hb.lt (fun e => hPG (by cases e; rfl))).trans hb⟩, cap, _, rfl, hst.1⟩, cap, hst.1⟩
  cases e
  rcases hG with h | h
  · exact k2 h.symm
  · omega
/-- The store of the row's new value. -/
theorem PC3.put {n₀ P i : Nat} {wr w : World} {v x : Value} {cs : Value → Array Value} {G j : Nat} {xs : List Value} (hcs : ∀ y x, (cs y).setIfInBounds i x = cs x) (hPG : P ≠ G) (h1 : K3 wr w P v v) (h2 : ∃ x, Box w P (cs x) 135) (h7 : PV7 n₀ G j xs x w) :
    PC3 n₀ P wr v cs G j xs 2 (w.setCell ⟨P, i, none⟩ x) ∧ PV12 n₀ P cs G j xs undef (w.setCell ⟨P, i, none⟩ x) := by
  obtain ⟨y, hb⟩ := h2
  obtain ⟨cap, zs, rfl, hz, h3⟩ := h7
  have hb' := hb.set i (.slice (some ⟨G, 0, none⟩) (j + 1) cap)
  rw [hcs] at hb'
  have hf := own_far (P := P) (i := i) hPG (.slice (some ⟨G, 0, none⟩) (j + 1) cap) h3
  have hs := Below.heap_setCell w ⟨P, i, none⟩ (.slice (some ⟨G, 0, none⟩) (j + 1) cap)
  exact ⟨⟨⟨h1.os, h1.tape, h1.output, by simpa using h1.size, fun k hk k1 k2 k3 => (hs k k1).trans (h1.block k hk k1 k2 k3)⟩, ⟨_, hb'⟩, cap, zs, hz, hf⟩, _, ⟨cap, zs, rfl, hz, hf⟩, hb'⟩

/-- The row behind the region: longer by the element. -/
theorem RowF.more {n₀ : Nat} {wr w3 : World} {v' : Value} {fs : List Tr} {X : Tr} {k n : Int} {s : ByteArray} {l : List Tr} {a : Option Addr} {c : Nat} {xs : List Value} {G j : Nat} (hj : j = fs.length) (hx : xs.length = j * 4) (hf : FndX n₀ wr xs fs) (hXe : X = .node k n s l) (hX : IsT n₀ wr X (.agg #[.int .i64 k, .int .i64 n, .string s, .slice a l.length c])) (hB : Below n₀ wr w3)
    (h7 : PV7 n₀ G j xs v' w3) (h9 : PV9 n₀ G j xs (.int .i64 k) (.int .i64 n) (.string s) (.slice a l.length c) undef w3) : RowF n₀ w3 v' (fs ++ [X]) ∧ ∃ cap, v' = .slice (some ⟨G, 0, none⟩) (j + 1) cap := by
  subst hj
  obtain ⟨cap, zs, rfl, hz, h3⟩ := h7
  obtain ⟨cap', h4⟩ := h9
  have e : zs = [.int .i64 k, .int .i64 n, .string s, .slice a l.length c] := by
    have h5 : ∀ i, i < 4 → (xs ++ zs)[fs.length * 4 + i]? = (xs ++ [Value.int .i64 k, .int .i64 n, .string s, .slice a l.length c])[fs.length * 4 + i]? := fun i hi => by
      rw [← h3.cellAt (fs.length * 4 + i) (by omega), ← h4.cellAt (fs.length * 4 + i) (by omega)]
    match zs, hz with
    | [z0, z1, z2, z3], _ =>
      have q0 := h5 0 (by omega)
      have q1 := h5 1 (by omega)
      have q2 := h5 2 (by omega)
      have q3 := h5 3 (by omega)
      rw [List.getElem?_append_right (by omega), List.getElem?_append_right (by omega)] at q0 q1 q2 q3
      rw [show fs.length * 4 + 0 - xs.length = 0 by omega] at q0
      rw [show fs.length * 4 + 1 - xs.length = 1 by omega] at q1
      rw [show fs.length * 4 + 2 - xs.length = 2 by omega] at q2
      rw [show fs.length * 4 + 3 - xs.length = 3 by omega] at q3
      simp only [List.getElem?_cons_succ, List.getElem?_cons_zero, Option.some.injEq] at q0 q1 q2 q3
      rw [q0, q1, q2, q3]
  subst e
  refine ⟨⟨_, by rw [List.length_append]; exact h3, fun i hi => ?_⟩, cap, rfl⟩
  simp only [List.length_append, List.length_singleton] at hi
  by_cases e : i < fs.length
  · obtain ⟨k', n', s', l', a', c', e', c0, c1, c2, c3, ht'⟩ := hf i e
    have eg : (fs ++ [X])[i]'(by simpa using hi) = fs[i] := List.getElem_append_left e
    refine ⟨k', n', s', l', a', c', by rw [eg]; exact e', ?_, ?_, ?_, ?_, by rw [eg]; exact ht'.below hB⟩
    · rw [List.getElem?_append_left (by omega), c0]
    · rw [List.getElem?_append_left (by omega), c1]
    · rw [List.getElem?_append_left (by omega), c2]
    · rw [List.getElem?_append_left (by omega), c3]
  · obtain rfl : i = fs.length := by omega
    have eg : (fs ++ [X])[fs.length]'(by simp) = X := by simp
    refine ⟨k, n, s, l, a, c, by rw [eg]; exact hXe, ?_, ?_, ?_, ?_, by rw [eg]; exact hX.below hB⟩
    · rw [List.getElem?_append_right (by omega), hx]; simp
    · rw [List.getElem?_append_right (by omega), hx, show fs.length * 4 + 1 - fs.length * 4 = 1 by omega]; rfl
    · rw [List.getElem?_append_right (by omega), hx, show fs.length * 4 + 2 - fs.length * 4 = 2 by omega]; rfl
    · rw [List.getElem?_append_right (by omega), hx, show fs.length * 4 + 3 - fs.length * 4 = 3 by omega]; rfl

end Go.Proofs.YtlaeaoecmnaneaaDoor
