/- The second reading of the variables of trees. -/
import Derived.Test.YtdigiaigbcfccaaGreatDoorSane
import Derived.Test.YtdigiaigbcfccaaGreatDoorPlace
import Derived.Test.YtdigiaigbcfccaaGreatDoorMaps
namespace Go.Proofs.YtdigiaigbcfccaaGreatDoor
open Go.RowKit Go


set_option maxRecDepth 100000 in
set_option maxHeartbeats 1000000 in
theorem refIn_any (base : Nat) (ns : List Int) (o : Value) (x : Int) (w : World) (hv : Nums base w o ns) (hl : ns.length ≤ 1000000) :
    Calls Tryz.prog 71 #[o, .int .i64 x] w fun e w' => e = .returned (.bool (decide (x ∈ ns))) ∧ Below w.heap.size w w' := by
  rcases hv.open with ⟨rfl, rfl⟩ | ⟨g, cap, cur, rfl, hg1, hg2, hg3, hg4, hg5, hg6⟩
  · clear hv
    go_enter Tryz.func71, Tryz.ntmps71
    go_wp2_with fail
    go_loopw [5] (fun iv wr => iv = .int .i64 0 ∧ Below w.heap.size w wr) (fun _ _ => 0)
    case atStart => exact ⟨rfl, Below.refl _ _⟩
    case round =>
      obtain ⟨rfl, hB⟩ := hrel
      go_wp2_with fail
      go_ret
      exact ⟨by simp, hB⟩
  · have hlen : ns.length ≤ 9223372036854775807 := by omega
    have Hg6 := Lib.hid hg6
    have HG := Lib.hid hg2
    clear hv hg6 hg2
    go_enter Tryz.func71, Tryz.ntmps71
    go_wp2_with fail
    go_loopw [5] (fun iv wr => ∃ j : Nat, j ≤ ns.length ∧ iv = .int .i64 j ∧ x ∉ ns.take j ∧ Below w.heap.size w wr) (fun iv _ => ns.length - (intOf iv).toNat)
    case atStart => exact ⟨0, Nat.zero_le _, rfl, by simp, Below.refl _ _⟩
    case round =>
      obtain ⟨j, hj, rfl, hno, hB⟩ := hrel
      have hbk := Box.keep hB HG.out
      have HN := Lib.hid hno
      clear hno
      by_cases hlt : j < ns.length
      · have hgd : ns.getD j 0 = ns[j] := by simp [List.getD, hlt]
        have q0 := (hbk.cell j).trans (take_get Hg6.out hlt)
        rw [hgd] at q0
        have l0 := hbk.lt
        clear hgd hbk
        obtain ⟨z, hz⟩ : ∃ z, ns[j] = z := ⟨_, rfl⟩
        rw [hz] at q0
        have HZ := Lib.hid hz
        clear hz
        by_cases hx : z = x
        · subst hx
          go_wp2_with fail
          go_ret
          exact ⟨by rw [decide_eq_true (HZ.out ▸ List.getElem_mem hlt)]; rfl, hB⟩
        · go_wp2_with fail
          go_roundw
          case rel => exact ⟨j + 1, hlt, by go_num, by rw [List.take_succ_eq_append_getElem hlt]; simp only [List.mem_append, List.mem_singleton, not_or]; exact ⟨HN.out, fun e => hx (HZ.out.symm.trans e.symm)⟩, hB⟩
          case measure => simp [intOf]; omega
      · have hjl : j = ns.length := by omega
        clear hbk
        go_wp2_with fail
        go_ret
        exact ⟨by have h := HN.out; rw [hjl, List.take_length] at h; rw [decide_eq_false h]; rfl, hB⟩
mutual
/-- The variables of a tree behind those that have been met. -/
def vrT : Tr → List Int → List Int
  | .node k x _ ts, S => vrL ts (if k = 1 ∧ x ∉ S then S ++ [x] else S)
def vrL : List Tr → List Int → List Int
  | [], S => S
  | t :: ts, S => vrL ts (vrT t S)
end
theorem sizeL_take_add {ts : List Tr} : ∀ {j : Nat} (h : j < ts.length), sizeL (ts.take j) + ts[j].size ≤ sizeL ts := by
  induction ts with
  | nil => intro j h; simp at h
  | cons t ts ih =>
    intro j h
    cases j with
    | zero => simp [sizeL]
    | succ j => have := ih (j := j) (by simpa using h); simp only [List.take_succ_cons, sizeL, List.getElem_cons_succ]; omega
theorem vrL_take : ∀ (ts : List Tr) (S : List Int) (j : Nat) (h : j < ts.length), vrL (ts.take (j + 1)) S = vrT ts[j] (vrL (ts.take j) S)
  | [], _, _, h => by simp at h
  | t :: ts, S, 0, _ => by simp [vrL]
  | t :: ts, S, j + 1, h => by
    simp only [List.take_succ_cons, vrL, List.getElem_cons_succ]
    exact vrL_take ts _ j (by simpa using h)
mutual
theorem vrT_len : ∀ (T : Tr) (S : List Int), (vrT T S).length ≤ S.length + T.size
  | .node k x s ts, S => by
    rw [vrT, Tr.size]
    split
    · have := vrL_len ts (S ++ [x])
      rw [List.length_append, List.length_singleton] at this
      omega
    · have := vrL_len ts S
      omega
theorem vrL_len : ∀ (ts : List Tr) (S : List Int), (vrL ts S).length ≤ S.length + sizeL ts
  | [], S => by simp [vrL]
  | t :: ts, S => by
    rw [vrL]
    have h1 := vrL_len ts (vrT t S)
    have h2 := vrT_len t S
    simp only [sizeL]
    omega
end

theorem Nums.keep {base : Nat} {W W' : World} {o : Value} {ns : List Int} (h : Nums base W o ns) (B : Below W.heap.size W W') : Nums base W' o ns := h.at fun g hg => B.block g (h.lt g hg).2
theorem grown_row {a b c : World} {r r' : Option Nat} (h : a.grownBy b r) (h' : b.grownBy c r') (hr : ∀ g, r' = some g → r = some g ∨ a.heap.size ≤ g) : a.grownBy c r :=
  ⟨h'.os.trans h.os, h'.tape.trans h.tape, h'.output.trans h.output, Nat.le_trans h.size h'.size, fun i hi hne => (h'.block i (Nat.lt_of_lt_of_le hi h.size) (fun e => by
    rcases hr i e.symm with h2 | h2
    · exact hne h2.symm
    · omega)).trans (h.block i hi hne)⟩
def VrPost (base : Nat) (o : Value) (ns : List Int) (w : World) (e : Ending) (w' : World) : Prop := ∃ v', e = .returned v' ∧ Nums base w' v' ns ∧ w.grownBy w' o.ownBlock ∧ ∀ b, v'.ownBlock = some b → o.ownBlock = some b ∨ w.heap.size ≤ b
/-- Between two trees of the row: the node's box lies, and the numbers so far. -/
structure VrAt (base : Nat) (o : Value) (w : World) (ck : Array Value) (ov : Value) (ns : List Int) (wr : World) : Prop where
  box : Box wr w.heap.size ck 24
  nums : Nums base wr ov ns
  grown : w.grownBy wr o.ownBlock
  own : ∀ b, ov.ownBlock = some b → o.ownBlock = some b ∨ w.heap.size + 1 ≤ b
  old : ∀ b, o.ownBlock = some b → base ≤ b ∧ b < w.heap.size
theorem VrAt.below {base : Nat} {o : Value} {w : World} {ck : Array Value} {ov : Value} {ns : List Int} {wr : World} (h : VrAt base o w ck ov ns wr) {n₀ : Nat} (h1 : n₀ ≤ base) (h2 : n₀ ≤ w.heap.size) : Below n₀ w wr :=
  grown_below' h.grown h2 (fun g e => Nat.le_trans h1 (h.old g e).1)
theorem VrAt.step {base : Nat} {o : Value} {w : World} {ck : Array Value} {ov : Value} {ns : List Int} {wr : World} (h : VrAt base o w ck ov ns wr) {v' : Value} {ns' : List Int} {W : World} (hn : Nums base W v' ns') (hg : wr.grownBy W ov.ownBlock) (ho : ∀ b, v'.ownBlock = some b → ov.ownBlock = some b ∨ wr.heap.size ≤ b) : VrAt base o w ck v' ns' W := by
  have hl := h.box.lt
  refine ⟨(hg.block _ hl (fun e => ?_)).trans h.box, hn, grown_row h.grown hg (fun g e => ?_), fun b hb => ?_, h.old⟩
  · rcases h.own _ e.symm with h2 | h2
    · have := (h.old _ h2).2; omega
    · omega
  · rcases h.own g e with h2 | h2
    · exact .inl h2
    · exact .inr (by omega)
  · rcases ho b hb with h2 | h2
    · exact h.own b h2
    · exact .inr (by omega)

set_option maxRecDepth 100000 in
set_option maxHeartbeats 4000000 in
theorem refVariables_any (base n₀ : Nat) (hb0 : n₀ ≤ base) (T : Tr) : ∀ (S : List Int) (v o : Value) (w : World), IsT n₀ w T v → Nums base w o S → base ≤ w.heap.size → S.length + T.size ≤ 1000000 →
    Calls Tryz.prog 41 #[v, o] w (VrPost base o (vrT T S) w) := by
  induction T using Tr.ind with
  | h k x s ts ih =>
    intro S v o w hT hv hbs hsz
    obtain ⟨a, c, rfl, -, -, -, h4, h5, hts⟩ := hT.open
    simp only [Tr.size] at hsz
    have hln := length_le_sizeL ts
    have hlm : ts.length ≤ 9223372036854775807 := by omega
    have HTS := Lib.hid hts
    have HI := Lib.hid ih
    clear ih hts hT
    obtain ⟨i0, hi, hz0, hz1, hz2⟩ := info_parts infoInt
    obtain ⟨len, cap, oa, hve, hlen⟩ : ∃ (len cap : Nat) (a : Option Addr), o = .slice a len cap ∧ len = S.length := by
      rcases hv.open with ⟨rfl, rfl⟩ | ⟨g, cap, cur, rfl, _⟩
      · exact ⟨0, 0, none, rfl, rfl⟩
      · exact ⟨_, cap, _, rfl, rfl⟩
    have HVE := Lib.hid hve
    have HLEN := Lib.hid hlen
    clear hve hlen
    have hold : ∀ b, o.ownBlock = some b → base ≤ b ∧ b < w.heap.size := fun b h => hv.lt b h
    have hA0 : VrAt base o w #[.int .i64 k, .int .i64 x, .string s, .slice a ts.length c] o S (w.alloc (.cells #[.int .i64 k, .int .i64 x, .string s, .slice a ts.length c] 24)) := ⟨Box.at rfl, hv.keep (below_a1 (Nat.le_refl _) _), grown_b _ (below_a1 (Nat.le_refl _) _), fun b h => .inl h, hold⟩
    clear hv hold
    by_cases hk : k = 1
    · subst hk
      have hin := refIn_any base S o x (w.alloc (.cells #[.int .i64 1, .int .i64 x, .string s, .slice a ts.length c] 24)) hA0.nums (by omega)
      have q0 := hA0.box.cell 0
      have q1 := hA0.box.cell 1
      have q3 := hA0.box.cell 3
      have l0 := hA0.box.lt
      simp only [List.getElem?_toArray, List.getElem?_cons_succ, List.getElem?_cons_zero] at q0 q1 q3
      have HIN := Lib.hid hin
      have HS0 := Lib.hid hA0
      clear hin hA0
      go_enter Tryz.func41, Tryz.ntmps41
      go_wp2_with fail
      refine HIN.out.mono ?_
      rintro e W1 ⟨rfl, B⟩
      have hA1 : VrAt base o w #[.int .i64 1, .int .i64 x, .string s, .slice a ts.length c] o S W1 := HS0.out.step (HS0.out.nums.keep B) (grown_b _ B) (fun b h => .inl h)
      clear B q0 q1 q3 l0
      have HS1 := Lib.hid hA1
      have q1 := hA1.box.cell 1
      have l0 := hA1.box.lt
      simp only [List.getElem?_toArray, List.getElem?_cons_succ, List.getElem?_cons_zero] at q1
      clear hA1
      by_cases hx : x ∈ S
      · have hvr : Hid (vrT (.node 1 x s ts) S = vrL ts S) := by rw [Hid, vrT, if_neg (fun h => h.2 hx)]
        rw [decide_eq_true hx]
        go_wp2_with fail
        go_loopw [1, 5] (fun sv iv wr => ∃ (j : Nat) (ov : Value), j ≤ ts.length ∧ ov = sv ∧ iv = .int .i64 j ∧ VrAt base o w #[.int .i64 1, .int .i64 x, .string s, .slice a ts.length c] ov (vrL (ts.take j) S) wr) (fun _ iv _ => ts.length - (intOf iv).toNat)
        case atStart => exact ⟨0, _, Nat.zero_le _, rfl, rfl, HS1.out⟩
        case round =>
          obtain ⟨j, ov, hj, rfl, rfl, hS⟩ := hrel
          have HS := Lib.hid hS
          have q3 := hS.box.cell 3
          have l0 := hS.box.lt
          simp only [List.getElem?_toArray, List.getElem?_cons_succ, List.getElem?_cons_zero] at q3
          have hBr := hS.below hb0 (by omega)
          clear hS
          by_cases hlt : j < ts.length
          · obtain ⟨b, off, rfl, hbb⟩ := HTS.out.addr (by omega)
            obtain ⟨tk, tn, tss, tl, ta, tc, te, d0, d1, d2, d3, ht⟩ := HTS.out.node' hbb hBr j hlt
            have hbw : b < wr.heap.size := by omega
            have hlv := vrL_len (ts.take j) S
            have hs1l : (S).length ≤ S.length + 1 := by simp
            have hcall := HI.out ts[j] (List.getElem_mem hlt) (vrL (ts.take j) S) _ ov wr (ht.below hBr) HS.out.nums (by have := hBr.size; omega) (by have h1 := sizeL_take_add hlt; omega)
            have HC := Lib.hid hcall
            clear te ht hcall hBr hlv hs1l
            go_wp2_with fail
            refine HC.out.mono ?_
            rintro e W5 ⟨v5, rfl, hn5, hg5, ho5⟩
            have HN := Lib.hid (HS.out.step hn5 hg5 ho5)
            clear HC d0 d1 d2 d3 q3 l0 hn5 hg5 ho5
            have HN2 : Hid (VrAt base o w #[.int .i64 1, .int .i64 x, .string s, .slice (some ⟨b, off, none⟩) ts.length c] v5 (vrL (ts.take (j + 1)) S) W5) := by rw [Hid, vrL_take ts _ j hlt]; exact HN.out
            go_wp2_with fail
            go_roundw
            case rel => exact ⟨j + 1, _, hlt, rfl, by go_num, HN2.out⟩
            case measure => simp [intOf]; omega
          · have et : ts.take j = ts := List.take_of_length_le (by omega)
            have hres : VrPost base o (vrT (.node 1 x s ts) S) w (.returned ov) wr := ⟨_, rfl, by have := HS.out.nums; rw [et] at this; rw [hvr.out]; exact this, HS.out.grown, fun b h => (HS.out.own b h).imp id (fun h => by omega)⟩
            have HR := Lib.hid hres
            clear hres hBr et
            go_wp2_with fail
            go_ret
            exact HR.out
      · have hvr : Hid (vrT (.node 1 x s ts) S = vrL ts (S ++ [x])) := by rw [Hid, vrT, if_pos ⟨rfl, hx⟩]
        rw [decide_eq_false hx]
        have hown := HS1.out.nums
        have hs1 := HS1.out.grown.size
        have hve := HVE.out
        have hlen := HLEN.out
        clear HVE HLEN
        subst hve
        subst hlen
        go_wp2_with (at_builtin; refine wpList_append_where rfl _ _ 30 rfl base 3 i0 (.int .i64 0) 1 8 Tryz.underlying30 hi hz0 hz1 hz2 rfl (by decide) _ _ _ rfl (World.ownsRow.alloc hown _) ⟨W1.heap.size, 0, none⟩ 1 1 [.int .i64 x] rfl rfl (cell_one_new _ _ _) (fun x hx => by simp at hx; subst hx; rfl) (by unfold maxLen; omega) (by omega) (by simp; omega) ?_)
        intro v' w1 hown1 hgrow hwh
        have hst : VrAt base (.slice oa S.length cap) w #[.int .i64 1, .int .i64 x, .string s, .slice a ts.length c] v' (S ++ [x]) w1 := by
          refine HS1.out.step (by simpa [Nums, ints] using hown1) ⟨hgrow.os, hgrow.tape, hgrow.output, by have := hgrow.size; simp at this; omega, fun i hi hne => (hgrow.block i (by simp; omega) (by cases oa <;> exact hne)).trans (Below.heap_alloc W1 _ i hi)⟩ (fun b hb => ?_)
          rcases hwh b hb with h | h
          · exact .inl (by cases oa <;> exact h)
          · exact .inr (by have := World.size_alloc W1 (.cells #[Value.int .i64 x] 3); omega)
        have HS2 := Lib.hid hst
        clear hst hown1 hgrow hwh hown q1 l0
        go_wp2_with fail
        go_loopw [1, 5] (fun sv iv wr => ∃ (j : Nat) (ov : Value), j ≤ ts.length ∧ ov = sv ∧ iv = .int .i64 j ∧ VrAt base (.slice oa S.length cap) w #[.int .i64 1, .int .i64 x, .string s, .slice a ts.length c] ov (vrL (ts.take j) (S ++ [x])) wr) (fun _ iv _ => ts.length - (intOf iv).toNat)
        case atStart => exact ⟨0, _, Nat.zero_le _, rfl, rfl, HS2.out⟩
        case round =>
          obtain ⟨j, ov, hj, rfl, rfl, hS⟩ := hrel
          have HS := Lib.hid hS
          have q3 := hS.box.cell 3
          have l0 := hS.box.lt
          simp only [List.getElem?_toArray, List.getElem?_cons_succ, List.getElem?_cons_zero] at q3
          have hBr := hS.below hb0 (by omega)
          clear hS
          by_cases hlt : j < ts.length
          · obtain ⟨b, off, rfl, hbb⟩ := HTS.out.addr (by omega)
            obtain ⟨tk, tn, tss, tl, ta, tc, te, d0, d1, d2, d3, ht⟩ := HTS.out.node' hbb hBr j hlt
            have hbw : b < wr.heap.size := by omega
            have hlv := vrL_len (ts.take j) (S ++ [x])
            have hs1l : ((S ++ [x])).length ≤ S.length + 1 := by simp
            have hcall := HI.out ts[j] (List.getElem_mem hlt) (vrL (ts.take j) (S ++ [x])) _ ov wr (ht.below hBr) HS.out.nums (by have := hBr.size; omega) (by have h1 := sizeL_take_add hlt; omega)
            have HC := Lib.hid hcall
            clear te ht hcall hBr hlv hs1l
            go_wp2_with fail
            refine HC.out.mono ?_
            rintro e W5 ⟨v5, rfl, hn5, hg5, ho5⟩
            have HN := Lib.hid (HS.out.step hn5 hg5 ho5)
            clear HC d0 d1 d2 d3 q3 l0 hn5 hg5 ho5
            have HN2 : Hid (VrAt base (.slice oa S.length cap) w #[.int .i64 1, .int .i64 x, .string s, .slice (some ⟨b, off, none⟩) ts.length c] v5 (vrL (ts.take (j + 1)) (S ++ [x])) W5) := by rw [Hid, vrL_take ts _ j hlt]; exact HN.out
            go_wp2_with fail
            go_roundw
            case rel => exact ⟨j + 1, _, hlt, rfl, by go_num, HN2.out⟩
            case measure => simp [intOf]; omega
          · have et : ts.take j = ts := List.take_of_length_le (by omega)
            have hres : VrPost base (.slice oa S.length cap) (vrT (.node 1 x s ts) S) w (.returned ov) wr := ⟨_, rfl, by have := HS.out.nums; rw [et] at this; rw [hvr.out]; exact this, HS.out.grown, fun b h => (HS.out.own b h).imp id (fun h => by omega)⟩
            have HR := Lib.hid hres
            clear hres hBr et
            go_wp2_with fail
            go_ret
            exact HR.out
    · have hvr : Hid (vrT (.node k x s ts) S = vrL ts S) := by rw [Hid, vrT, if_neg (fun h => hk h.1)]
      have hk' : (k == 1) = false := by simpa using hk
      have HS0 := Lib.hid hA0
      have q0 := hA0.box.cell 0
      have q1 := hA0.box.cell 1
      have q3 := hA0.box.cell 3
      have l0 := hA0.box.lt
      simp only [List.getElem?_toArray, List.getElem?_cons_succ, List.getElem?_cons_zero] at q0 q1 q3
      clear hA0
      go_enter Tryz.func41, Tryz.ntmps41
      go_wp2_with fail
      go_loopw [1, 5] (fun sv iv wr => ∃ (j : Nat) (ov : Value), j ≤ ts.length ∧ ov = sv ∧ iv = .int .i64 j ∧ VrAt base o w #[.int .i64 k, .int .i64 x, .string s, .slice a ts.length c] ov (vrL (ts.take j) S) wr) (fun _ iv _ => ts.length - (intOf iv).toNat)
      case atStart => exact ⟨0, _, Nat.zero_le _, rfl, rfl, HS0.out⟩
      case round =>
        obtain ⟨j, ov, hj, rfl, rfl, hS⟩ := hrel
        have HS := Lib.hid hS
        have q3 := hS.box.cell 3
        have l0 := hS.box.lt
        simp only [List.getElem?_toArray, List.getElem?_cons_succ, List.getElem?_cons_zero] at q3
        have hBr := hS.below hb0 (by omega)
        clear hS
        by_cases hlt : j < ts.length
        · obtain ⟨b, off, rfl, hbb⟩ := HTS.out.addr (by omega)
          obtain ⟨tk, tn, tss, tl, ta, tc, te, d0, d1, d2, d3, ht⟩ := HTS.out.node' hbb hBr j hlt
          have hbw : b < wr.heap.size := by omega
          have hlv := vrL_len (ts.take j) S
          have hs1l : (S).length ≤ S.length + 1 := by simp
          have hcall := HI.out ts[j] (List.getElem_mem hlt) (vrL (ts.take j) S) _ ov wr (ht.below hBr) HS.out.nums (by have := hBr.size; omega) (by have h1 := sizeL_take_add hlt; omega)
          have HC := Lib.hid hcall
          clear te ht hcall hBr hlv hs1l
          go_wp2_with fail
          refine HC.out.mono ?_
          rintro e W5 ⟨v5, rfl, hn5, hg5, ho5⟩
          have HN := Lib.hid (HS.out.step hn5 hg5 ho5)
          clear HC d0 d1 d2 d3 q3 l0 hn5 hg5 ho5
          have HN2 : Hid (VrAt base o w #[.int .i64 k, .int .i64 x, .string s, .slice (some ⟨b, off, none⟩) ts.length c] v5 (vrL (ts.take (j + 1)) S) W5) := by rw [Hid, vrL_take ts _ j hlt]; exact HN.out
          go_wp2_with fail
          go_roundw
          case rel => exact ⟨j + 1, _, hlt, rfl, by go_num, HN2.out⟩
          case measure => simp [intOf]; omega
        · have et : ts.take j = ts := List.take_of_length_le (by omega)
          have hres : VrPost base o (vrT (.node k x s ts) S) w (.returned ov) wr := ⟨_, rfl, by have := HS.out.nums; rw [et] at this; rw [hvr.out]; exact this, HS.out.grown, fun b h => (HS.out.own b h).imp id (fun h => by omega)⟩
          have HR := Lib.hid hres
          clear hres hBr et
          go_wp2_with fail
          go_ret
          exact HR.out
mutual
theorem vrT_eq : ∀ (T : Tr) (S : List Int) (d : Int), vrT T S = varsP S (preT d T)
  | .node k x s ts, S, d => by
    rw [vrT, preT, vrL_eq ts _ (d + 1)]
    rfl
theorem vrL_eq : ∀ (ts : List Tr) (S : List Int) (d : Int), vrL ts S = varsP S (preL d ts)
  | [], S, d => rfl
  | t :: ts, S, d => by
    rw [vrL, preL, vrL_eq ts _ d, vrT_eq t S d]
    simp only [varsP, List.foldl_append]
end
theorem vrL_vars : ∀ (l : List Tr) (S : List Int), vrL l S = varsL S l
  | [], S => rfl
  | t :: ts, S => by
    rw [vrL, vrL_vars ts, vrT_eq t S 1]
    rfl

set_option maxRecDepth 100000 in
set_option maxHeartbeats 2000000 in
theorem refVarsOf_any (l : List Tr) (a : Option Addr) (c : Nat) (w : World) (hl : IsL w.heap.size w l a) (hsz : sizeL l ≤ 1000000) :
    Calls Tryz.prog 39 #[.slice a l.length c] w fun e w' => ∃ v', e = .returned v' ∧ Nums w.heap.size w' v' (varsL [] l) ∧ Below w.heap.size w w' := by
  have hln := length_le_sizeL l
  have hlm : l.length ≤ 9223372036854775807 := by omega
  have HL := Lib.hid hl
  clear hl
  go_enter Tryz.func39, Tryz.ntmps39
  go_wp2_with fail
  go_loopw [3, 4] (fun sv iv wr => ∃ (j : Nat) (ov : Value), j ≤ l.length ∧ ov = sv ∧ iv = .int .i64 j ∧ Nums w.heap.size wr ov (vrL (l.take j) []) ∧ Below w.heap.size w wr) (fun _ iv _ => l.length - (intOf iv).toNat)
  case atStart => exact ⟨0, _, Nat.zero_le _, rfl, rfl, World.ownsRow_nil _ _ _ _, Below.refl _ _⟩
  case round =>
    obtain ⟨j, ov, hj, rfl, rfl, hN, hB⟩ := hrel
    have HN := Lib.hid hN
    clear hN
    have hws := hB.size
    by_cases hlt : j < l.length
    · obtain ⟨b, off, rfl, hbb⟩ := HL.out.addr (by omega)
      obtain ⟨tk, tn, tss, tl, ta, tc, te, d0, d1, d2, d3, ht⟩ := HL.out.node' hbb hB j hlt
      have hbw : b < wr.heap.size := by omega
      have hlv := vrL_len (l.take j) []
      have hcall := refVariables_any w.heap.size w.heap.size (Nat.le_refl _) l[j] (vrL (l.take j) []) _ ov wr (ht.below hB) HN.out hws (by have h1 := sizeL_take_add hlt; simp at hlv; omega)
      have HC := Lib.hid hcall
      clear te ht hcall hlv
      go_wp2_with fail
      refine HC.out.mono ?_
      rintro e W5 ⟨v5, rfl, hn5, hg5, ho5⟩
      have HM : Hid (Nums w.heap.size W5 v5 (vrL (l.take (j + 1)) [])) := by rw [Hid, vrL_take l _ j hlt]; exact hn5
      have hB5 := hB.trans (grown_below' hg5 hws (fun g e => (HN.out.lt g e).1))
      clear HC d0 d1 d2 d3 hn5 hg5 ho5
      go_wp2_with fail
      go_roundw
      case rel => exact ⟨j + 1, _, hlt, rfl, by go_num, HM.out, hB5⟩
      case measure => simp [intOf]; omega
    · have HM : Hid (Nums w.heap.size wr ov (varsL [] l)) := by have := HN.out; rw [List.take_of_length_le (show l.length ≤ j by omega), vrL_vars] at this; exact this
      go_wp2_with fail
      go_ret
      exact ⟨_, rfl, HM.out, hB⟩
/-- Where a number stands; -1 if it doesn't. -/
def idxR (ns : List Int) (x : Int) : Int := if x ∈ ns then (ns.idxOf x : Int) else -1
theorem idx_hit : ∀ {ns : List Int} {j : Nat} {x : Int} (h : j < ns.length), ns[j] = x → x ∉ ns.take j → ns.idxOf x = j
  | [], _, _, h, _, _ => by simp at h
  | n :: ns, 0, x, _, e, _ => by
    simp only [List.getElem_cons_zero] at e
    subst e
    simp
  | n :: ns, j + 1, x, h, e, hno => by
    simp only [List.take_succ_cons, List.mem_cons, not_or, List.getElem_cons_succ] at hno e
    have hne : (n == x) = false := by simpa using fun e => hno.1 e.symm
    rw [List.idxOf_cons, hne, cond_false, idx_hit (by simpa using h) e hno.2]

end Go.Proofs.YtdigiaigbcfccaaGreatDoor
