/- The second reading of the symbols of a tree. -/
import Derived.RegionTactic
import Derived.ChangeAlike
import Derived.Deep.QuietTactic
import Derived.BigQuiet
import Derived.Laws.StructEq
import Derived.Test.YtdigiaigbcfccaaGreatDoorSortN
import Derived.Test.YtdigiaigbcfccaaGreatDoorSane
namespace Go.Proofs.YtdigiaigbcfccaaGreatDoor
open Go.RowKit Go

/-- A symbol among those that are there (done: it is in already). -/
def insG (s : Sym) : List Sym → Bool → List Sym
  | [], d => if d then [] else [s]
  | x :: l, d => if d || decide (x = s) then x :: insG s l true else if symO s x < 0 then s :: x :: insG s l true else x :: insG s l false
def insY (l : List Sym) (s : Sym) : List Sym := insG s l false
theorem insG_true (s : Sym) : ∀ l, insG s l true = l
  | [] => rfl
  | x :: l => by simp [insG, insG_true s l]
theorem insG_len (s : Sym) : ∀ (l : List Sym) (d : Bool), (insG s l d).length ≤ l.length + 1
  | [], d => by cases d <;> simp [insG]
  | x :: l, d => by
    have h1 := insG_len s l false
    have h2 := insG_true s l
    simp only [insG]
    split
    · simp [h2]
    · split
      · simp [h2]
      · simpa using h1
theorem insG_put {s x : Sym} {l : List Sym} (h : ¬ x = s) (h2 : symO s x < 0) : insG s (x :: l) false = s :: x :: insG s l true := by
  rw [insG, if_neg (by simpa using h), if_pos h2]
theorem insG_skip {s x : Sym} {l : List Sym} (h : ¬ x = s) (h2 : 0 ≤ symO s x) : insG s (x :: l) false = x :: insG s l false := by
  rw [insG, if_neg (by simpa using h), if_neg (by omega)]
def SAsc (l : List Sym) : Prop := l.Pairwise fun x y => symO x y < 0
theorem symO_lt_trans {x y z : Sym} (h1 : symO x y < 0) (h2 : symO y z < 0) : symO x z < 0 := by
  have := symLt_swo.trans x y z (by simpa [symLt] using h1) (by simpa [symLt] using h2)
  simpa [symLt] using this
theorem insG_spec (s : Sym) : ∀ l, SAsc l → SAsc (insG s l false) ∧ ∀ x, x ∈ insG s l false ↔ x = s ∨ x ∈ l
  | [], _ => by simp [insG, SAsc]
  | x :: l, h => by
    obtain ⟨h1, h2⟩ := List.pairwise_cons.1 h
    obtain ⟨h3, h4⟩ := insG_spec s l h2
    simp only [insG, Bool.false_or, decide_eq_true_eq]
    split
    · rename_i e
      subst e
      rw [insG_true]
      exact ⟨h, fun y => by simp⟩
    · rename_i hne
      split
      · rename_i hlt
        rw [insG_true]
        refine ⟨List.pairwise_cons.2 ⟨fun y hy => ?_, h⟩, fun y => by simp⟩
        rcases List.mem_cons.1 hy with rfl | hy
        · exact hlt
        · exact symO_lt_trans hlt (h1 y hy)
      · rename_i hge
        refine ⟨List.pairwise_cons.2 ⟨fun y hy => ?_, h3⟩, fun y => by simp only [List.mem_cons, h4]; constructor <;> rintro (h | h | h) <;> simp [h]⟩
        rcases (h4 y).1 hy with rfl | hy
        · have := symO_anti x y
          have h5 : symO x y ≠ 0 := fun e => hne ((symO_zero x y).1 e)
          omega
        · exact h1 y hy
theorem sym_lt (x y : Sym) : symO x y < 0 ↔ Lib.compareBytes x.1.data.toList y.1.data.toList < 0 ∨ (x.1 = y.1 ∧ x.2 < y.2) := by
  rw [symO_eq]
  have h1 := cb_zero x.1.data.toList y.1.data.toList
  rw [str_eq] at h1
  have h2 : Lib.compareInt x.2 y.2 < 0 ↔ x.2 < y.2 := by unfold Lib.compareInt; split <;> (try split) <;> constructor <;> intro h <;> omega
  split
  · rename_i e
    rw [h2]
    have he := h1.1 e
    have e2 := (cb_zero y.1.data.toList y.1.data.toList).2 rfl
    simp [he, e2]
  · rename_i e
    have : ¬ x.1 = y.1 := fun q => e (h1.2 q)
    simp [this]

def eqS (x y : Sym) : Bool := decide (x = y)
theorem eqGuardSym : Tryz.prog.eqGuardType Tryz.prog.depth 42 = false := by kernel_rfl
theorem heldSym : Tryz.prog.stoodInHeld 42 = false := by kernel_rfl
theorem run_eqSym (w : World) (s s' : ByteArray) (n n' : Int) : (binOp .eql 42 (.agg #[.string s, .int .i64 n]) (.agg #[.string s', .int .i64 n'])).run Tryz.prog w = .ok (.bool (eqS (s, n) (s', n'))) w := by
  have h0 : s.toList = s'.toList ↔ s = s' := by rw [bytes_toList, bytes_toList, str_eq]
  rw [run_eql_struct, show (10000 : Nat) = 9999 + 1 from rfl, run_equalIn_agg _ _ _ _ _ (by simp [Program.fieldsOf, Tryz.underlying42]) heldSym]
  simp [go_sem, eqS, Program.fieldsOf, Tryz.underlying42]
  simp only [h0]
  by_cases h1 : s = s' <;> by_cases h2 : n = n' <;> simp [h1, h2]

attribute [local go_sem] eqGuardSym
theorem symDrew (W : World) : Below W.heap.size W W.drew := ⟨rfl, rfl, rfl, Nat.le_refl _, fun _ _ => rfl⟩
theorem symDrewN (W : World) (n : Nat) : Below W.heap.size W (W.drewN n) := ⟨rfl, rfl, rfl, Nat.le_refl _, fun _ _ => rfl⟩
theorem sym_news (W : World) (x : ByteArray) (i : Int) : ∀ jj u, [Value.string x, .int .i64 i][jj]? = some u → (W.alloc (.cells #[.string x, .int .i64 i] 42)).cell? ((⟨W.heap.size, 0, none⟩ : Addr).add jj) = some u := fun j u hu => by
  have hb : Box (W.alloc (.cells #[.string x, .int .i64 i] 42)) W.heap.size #[.string x, .int .i64 i] 42 := Box.at rfl
  rw [Addr.add_lit]
  have := hb.cell (0 + j)
  rw [this]
  simpa using hu
/-- Between two symbols of the list. -/
structure InsAt (w : World) (s : ByteArray) (n : Int) (l : List Sym) (j : Nat) (ov : Value) (pre : List Sym) (d : Bool) (wr : World) : Prop where
  own : wr.ownsRow (w.heap.size + 1) 42 2 ov pre.length (symsE pre)
  below : Below w.heap.size w wr
  box : Box wr w.heap.size #[.string s, .int .i64 n] 42
  eq : insY l (s, n) = pre ++ insG (s, n) (l.drop j) d
  len : pre.length ≤ j + 1
  len0 : d = false → pre.length ≤ j
theorem InsAt.up {w : World} {s : ByteArray} {n : Int} {l : List Sym} {j : Nat} {ov : Value} {pre : List Sym} {d : Bool} {wr W : World} (h : InsAt w s n l j ov pre d wr) (B : Below wr.heap.size wr W) : InsAt w s n l j ov pre d W :=
  ⟨h.own.kept (grown_b none B) (by rcases ov.ownBlock with _ | _ <;> simp), h.below.trans (B.mono h.below.size), h.box.keep B, h.eq, h.len, h.len0⟩
/-- A symbol is appended. -/
theorem InsAt.push {w : World} {s : ByteArray} {n : Int} {l : List Sym} {j : Nat} {ov v2 : Value} {pre : List Sym} {d d' : Bool} {W w3 : World} {j' : Nat} (h : InsAt w s n l j ov pre d W) (x : ByteArray) (i : Int)
    (hown : w3.ownsRow (w.heap.size + 1) 42 2 v2 (pre.length + 1) (symsE pre ++ [.string x, .int .i64 i])) (hgrow : (W.alloc (.cells #[.string x, .int .i64 i] 42)).grownBy w3 ov.ownBlock)
    (he : insY l (s, n) = (pre ++ [(x, i)]) ++ insG (s, n) (l.drop j') d') (hl : pre.length + 1 ≤ j' + 1) (hl0 : d' = false → pre.length + 1 ≤ j') : InsAt w s n l j' v2 (pre ++ [(x, i)]) d' w3 := by
  have hb : ∀ g, ov.ownBlock = some g → w.heap.size + 1 ≤ g := fun g hg => (h.own.lt g hg).1
  have hsz := h.box.lt
  refine ⟨?_, ?_, ?_, he, by simpa using hl, fun h => by simpa using hl0 h⟩
  · rw [len_snoc, show symsE (pre ++ [(x, i)]) = symsE pre ++ [.string x, .int .i64 i] by simp [symsE, symE]]
    exact hown
  · exact (h.below.trans (below_a1 h.below.size _)).trans (grown_below' hgrow (by simp; omega) (fun g hg => by have := hb g hg; omega))
  · exact (hgrow.block _ (by simp; omega) (fun e => by have := hb _ e.symm; omega)).trans ((Below.heap_alloc W _ _ hsz).trans h.box)
def InsPost (l : List Sym) (x : Sym) (w : World) (e : Ending) (w' : World) : Prop := ∃ v', e = .returned v' ∧ w'.ownsRow w.heap.size 42 2 v' (insY l x).length (symsE (insY l x)) ∧ Below w.heap.size w w'
set_option maxRecDepth 100000 in
set_option maxHeartbeats 4000000 in
theorem insert_any (base : Nat) (l : List Sym) (s : ByteArray) (n : Int) (o : Value) (w : World) (ho : w.ownsRow base 42 2 o l.length (symsE l)) (hl : l.length ≤ 1000000) :
    Calls Tryz.prog 76 #[o, .agg #[.string s, .int .i64 n]] w (InsPost l (s, n) w) := by
  obtain ⟨i0, hi, hz0, hz1, hz2⟩ := info_parts infoSym
  obtain ⟨oa, oc, rfl, hoa⟩ : ∃ (oa : Option Addr) (oc : Nat), o = .slice oa l.length oc ∧ (0 < l.length → ∃ g, oa = some ⟨g, 0, none⟩ ∧ g < w.heap.size ∧ ∀ j (h : j < l.length), w.cell? ⟨g, j * 2, none⟩ = some (.string l[j].1) ∧ w.cell? ⟨g, j * 2 + 1, none⟩ = some (.int .i64 l[j].2)) := by
    rcases ho.2 with ⟨rfl, h0⟩ | ⟨g, cap, cur, rfl, _⟩
    · exact ⟨none, 0, by rw [h0], fun h => by omega⟩
    · refine ⟨_, cap, rfl, fun _ => ⟨g, rfl, (ho.lt g rfl).2, fun j hj => ?_⟩⟩
      have e0 := symsE_get l (j * 2) (by omega)
      have e1 := symsE_get l (j * 2 + 1) (by omega)
      rw [show j * 2 / 2 = j by omega, show j * 2 % 2 = 0 by omega, getElem!_pos l j hj] at e0
      rw [show (j * 2 + 1) / 2 = j by omega, show (j * 2 + 1) % 2 = 1 by omega, getElem!_pos l j hj] at e1
      have c0 := ho.cells (g := g) rfl _ _ e0
      have c1 := ho.cells (g := g) rfl _ _ e1
      rw [Addr.add_lit, Nat.zero_add] at c0 c1
      exact ⟨c0, c1⟩
  have HO := Lib.hid hoa
  have hlm : l.length ≤ 9223372036854775807 := by omega
  have hst : Hid (InsAt w s n l 0 (.slice none 0 0) [] false (w.alloc (.cells #[.string s, .int .i64 n] 42))) :=
    ⟨World.ownsRow_nil _ _ _ _, below_a1 (Nat.le_refl _) _, Box.at rfl, rfl, by simp, fun _ => by simp⟩
  clear hoa ho
  go_enter Tryz.func76, Tryz.ntmps76
  go_wp2_with fail
  go_loopw [5, 6, 7] (fun sv dv iv wr => ∃ (j : Nat) (ov : Value) (pre : List Sym) (d : Bool), ov = sv ∧ j ≤ l.length ∧ iv = .int .i64 j ∧ dv = .bool d ∧ InsAt w s n l j ov pre d wr) (fun _ _ iv _ => l.length - (intOf iv).toNat)
  case atStart => exact ⟨0, _, [], false, rfl, Nat.zero_le _, rfl, rfl, hst.out⟩
  case round =>
    obtain ⟨j, ov, pre, d, rfl, hj, rfl, rfl, hA⟩ := hrel
    have q0 := hA.box.cell 0
    have q1 := hA.box.cell 1
    have hlb := hA.box.lt
    simp only [List.getElem?_toArray, List.getElem?_cons_succ, List.getElem?_cons_zero] at q0 q1
    have hpl := hA.len
    by_cases hlt : j < l.length
    · obtain ⟨g, rfl, hg, hcs⟩ := HO.out (by omega)
      have hx0 := (Below.cell hA.below (p := ⟨g, j * 2, none⟩) hg).trans (hcs j hlt).1
      have hx1 := (Below.cell hA.below (p := ⟨g, j * 2 + 1, none⟩) hg).trans (hcs j hlt).2
      have hgw : g < wr.heap.size := by omega
      have hdr : l.drop j = l[j] :: l.drop (j + 1) := List.drop_eq_getElem_cons hlt
      obtain ⟨x, i, hxi⟩ : ∃ x i, l[j] = (x, i) := ⟨_, _, rfl⟩
      rw [hxi] at hx0 hx1 hdr
      simp only at hx0 hx1
      have HA := Lib.hid (And.intro hA (And.intro hdr hxi))
      have hcj := hcs j hlt
      rw [hxi] at hcj
      have HC : Hid (w.cell? ⟨g, j * 2, none⟩ = some (.string x) ∧ w.cell? ⟨g, j * 2 + 1, none⟩ = some (.int .i64 i)) := hcj
      clear hA hdr hcs hxi hcj
      by_cases hx : x = s
      · subst hx
        by_cases hi' : i = n
        · subst hi'
          cases d
          · have hp0 := HA.out.1.len0 rfl
            go_wp2_with fail
            go_region
            have hA2 := HA.out.1.up (symDrew wr)
            generalize wr.drew = W2 at *
            clear q0 q1 hx0 hx1 hlb
            have q0 := hA2.box.cell 0
            have q1 := hA2.box.cell 1
            have hlb := hA2.box.lt
            have hx0 := (Below.cell hA2.below (p := ⟨g, j * 2, none⟩) hg).trans HC.out.1
            have hx1 := (Below.cell hA2.below (p := ⟨g, j * 2 + 1, none⟩) hg).trans HC.out.2
            simp only [List.getElem?_toArray, List.getElem?_cons_succ, List.getElem?_cons_zero] at q0 q1
            have hsz2 := hA2.below.size
            have HA2 := Lib.hid hA2
            clear hA2
            go_wp2_with fail
            go_quiet (fail)
            have hA3 := HA2.out.up (symDrewN W2 nq)
            generalize W2.drewN nq = W3 at *
            clear q0 q1 hx0 hx1 hlb
            have q0 := hA3.box.cell 0
            have q1 := hA3.box.cell 1
            have hlb := hA3.box.lt
            have hx0 := (Below.cell hA3.below (p := ⟨g, j * 2, none⟩) hg).trans HC.out.1
            have hx1 := (Below.cell hA3.below (p := ⟨g, j * 2 + 1, none⟩) hg).trans HC.out.2
            simp only [List.getElem?_toArray, List.getElem?_cons_succ, List.getElem?_cons_zero] at q0 q1
            have hsz3 := hA3.below.size
            have HA3 := Lib.hid hA3
            clear hA3
            have hNv2 : ∀ jj u, [Value.string x, .int .i64 i][jj]? = some u → (W3.alloc (.cells #[.string x, .int .i64 i] 42)).cell? ((⟨W3.heap.size, 0, none⟩ : Addr).add jj) = some u := sym_news W3 x i
            have hOv2 := HA3.out.own.kept (World.grownBy_alloc W3 (.cells #[.string x, .int .i64 i] 42) none) (by rcases Value.ownBlock ov with _ | _ <;> simp)
            have HNv2 := Lib.hid (And.intro hNv2 hOv2)
            clear hNv2 hOv2
            go_wp2_with (at_builtin; refine wpList_append_where rfl _ _ 37 rfl (w.heap.size + 1) 42 i0 (.agg #[.string ⟨#[]⟩, .int .i64 0]) 2 24 Tryz.underlying37 hi hz0 hz1 hz2 rfl (by decide) ov pre.length (symsE pre) rfl HNv2.out.2 ⟨W3.heap.size, 0, none⟩ 1 1 [.string x, .int .i64 i] rfl rfl HNv2.out.1 (fun y hy => by simp at hy; rcases hy with rfl | rfl <;> rfl) (by have := HA3.out.len; unfold maxLen; omega) (by have := HA3.out.len; omega) (by simp; omega) ?_)
            intro v2 w4 hownv2 hgrowv2 hwhv2
            have hfin : InsAt w x i l (j + 1) v2 (pre ++ [(x, i)]) true w4 := HA3.out.push x i hownv2 hgrowv2 (by rw [HA.out.1.eq, HA.out.2.1]; simp [insG]) (by omega) (fun h => by cases h)
            have HF := Lib.hid hfin
            clear hfin hownv2 hgrowv2 hwhv2 q0 q1 hx0 hx1 hlb
            go_wp2_with fail
            go_roundw
            case rel => exact ⟨j + 1, v2, _, _, rfl, hlt, by go_num, rfl, HF.out⟩
            case measure => simp [intOf]; omega
          · go_wp2_with fail
            go_region
            have hA2 := HA.out.1.up (symDrew wr)
            generalize wr.drew = W2 at *
            clear q0 q1 hx0 hx1 hlb
            have q0 := hA2.box.cell 0
            have q1 := hA2.box.cell 1
            have hlb := hA2.box.lt
            have hx0 := (Below.cell hA2.below (p := ⟨g, j * 2, none⟩) hg).trans HC.out.1
            have hx1 := (Below.cell hA2.below (p := ⟨g, j * 2 + 1, none⟩) hg).trans HC.out.2
            simp only [List.getElem?_toArray, List.getElem?_cons_succ, List.getElem?_cons_zero] at q0 q1
            have hsz2 := hA2.below.size
            have HA2 := Lib.hid hA2
            clear hA2
            go_wp2_with fail
            go_quiet (fail)
            have hA3 := HA2.out.up (symDrewN W2 nq)
            generalize W2.drewN nq = W3 at *
            clear q0 q1 hx0 hx1 hlb
            have q0 := hA3.box.cell 0
            have q1 := hA3.box.cell 1
            have hlb := hA3.box.lt
            have hx0 := (Below.cell hA3.below (p := ⟨g, j * 2, none⟩) hg).trans HC.out.1
            have hx1 := (Below.cell hA3.below (p := ⟨g, j * 2 + 1, none⟩) hg).trans HC.out.2
            simp only [List.getElem?_toArray, List.getElem?_cons_succ, List.getElem?_cons_zero] at q0 q1
            have hsz3 := hA3.below.size
            have HA3 := Lib.hid hA3
            clear hA3
            have hNv2 : ∀ jj u, [Value.string x, .int .i64 i][jj]? = some u → (W3.alloc (.cells #[.string x, .int .i64 i] 42)).cell? ((⟨W3.heap.size, 0, none⟩ : Addr).add jj) = some u := sym_news W3 x i
            have hOv2 := HA3.out.own.kept (World.grownBy_alloc W3 (.cells #[.string x, .int .i64 i] 42) none) (by rcases Value.ownBlock ov with _ | _ <;> simp)
            have HNv2 := Lib.hid (And.intro hNv2 hOv2)
            clear hNv2 hOv2
            go_wp2_with (at_builtin; refine wpList_append_where rfl _ _ 37 rfl (w.heap.size + 1) 42 i0 (.agg #[.string ⟨#[]⟩, .int .i64 0]) 2 24 Tryz.underlying37 hi hz0 hz1 hz2 rfl (by decide) ov pre.length (symsE pre) rfl HNv2.out.2 ⟨W3.heap.size, 0, none⟩ 1 1 [.string x, .int .i64 i] rfl rfl HNv2.out.1 (fun y hy => by simp at hy; rcases hy with rfl | rfl <;> rfl) (by have := HA3.out.len; unfold maxLen; omega) (by have := HA3.out.len; omega) (by simp; omega) ?_)
            intro v2 w4 hownv2 hgrowv2 hwhv2
            have hfin : InsAt w x i l (j + 1) v2 (pre ++ [(x, i)]) true w4 := HA3.out.push x i hownv2 hgrowv2 (by rw [HA.out.1.eq, HA.out.2.1]; simp [insG]) (by omega) (fun h => by cases h)
            have HF := Lib.hid hfin
            clear hfin hownv2 hgrowv2 hwhv2 q0 q1 hx0 hx1 hlb
            go_wp2_with fail
            go_roundw
            case rel => exact ⟨j + 1, v2, _, _, rfl, hlt, by go_num, rfl, HF.out⟩
            case measure => simp [intOf]; omega
        · cases d
          · have hXs := sym_lt (x, n) (x, i)
            have hXe : ¬ ((x, i) : Sym) = (x, n) := fun e => hi' (Prod.mk.inj e).2
            have hB0 := bytesLess_cmp x.toList x.toList
            rw [bytes_toList, (cb_zero x.data.toList x.data.toList).2 rfl] at hB0
            rw [← bytes_toList] at hB0
            by_cases hni : n < i
            · have HX : Hid (symO (x, n) (x, i) < 0 ∧ ¬ ((x, i) : Sym) = (x, n)) := ⟨hXs.2 (.inr ⟨rfl, hni⟩), hXe⟩
              clear hXs hXe
              have hp0 := HA.out.1.len0 rfl
              go_wp2_with fail
              go_region
              have hA2 := HA.out.1.up (symDrew wr)
              generalize wr.drew = W2 at *
              clear q0 q1 hx0 hx1 hlb
              have q0 := hA2.box.cell 0
              have q1 := hA2.box.cell 1
              have hlb := hA2.box.lt
              have hx0 := (Below.cell hA2.below (p := ⟨g, j * 2, none⟩) hg).trans HC.out.1
              have hx1 := (Below.cell hA2.below (p := ⟨g, j * 2 + 1, none⟩) hg).trans HC.out.2
              simp only [List.getElem?_toArray, List.getElem?_cons_succ, List.getElem?_cons_zero] at q0 q1
              have hsz2 := hA2.below.size
              have HA2 := Lib.hid hA2
              clear hA2
              go_wp2_with fail
              go_quiet (fail)
              have hA3 := HA2.out.up (symDrewN W2 nq)
              generalize W2.drewN nq = W3 at *
              clear q0 q1 hx0 hx1 hlb
              have q0 := hA3.box.cell 0
              have q1 := hA3.box.cell 1
              have hlb := hA3.box.lt
              have hx0 := (Below.cell hA3.below (p := ⟨g, j * 2, none⟩) hg).trans HC.out.1
              have hx1 := (Below.cell hA3.below (p := ⟨g, j * 2 + 1, none⟩) hg).trans HC.out.2
              simp only [List.getElem?_toArray, List.getElem?_cons_succ, List.getElem?_cons_zero] at q0 q1
              have hsz3 := hA3.below.size
              have HA3 := Lib.hid hA3
              clear hA3
              have hNv2 : ∀ jj u, [Value.string x, .int .i64 n][jj]? = some u → (W3.alloc (.cells #[.string x, .int .i64 n] 42)).cell? ((⟨W3.heap.size, 0, none⟩ : Addr).add jj) = some u := sym_news W3 x n
              have hOv2 := HA3.out.own.kept (World.grownBy_alloc W3 (.cells #[.string x, .int .i64 n] 42) none) (by rcases Value.ownBlock ov with _ | _ <;> simp)
              have HNv2 := Lib.hid (And.intro hNv2 hOv2)
              clear hNv2 hOv2
              go_wp2_with (at_builtin; refine wpList_append_where rfl _ _ 37 rfl (w.heap.size + 1) 42 i0 (.agg #[.string ⟨#[]⟩, .int .i64 0]) 2 24 Tryz.underlying37 hi hz0 hz1 hz2 rfl (by decide) ov pre.length (symsE pre) rfl HNv2.out.2 ⟨W3.heap.size, 0, none⟩ 1 1 [.string x, .int .i64 n] rfl rfl HNv2.out.1 (fun y hy => by simp at hy; rcases hy with rfl | rfl <;> rfl) (by have := HA3.out.len; unfold maxLen; omega) (by have := HA3.out.len; omega) (by simp; omega) ?_)
              intro v2 w4 hownv2 hgrowv2 hwhv2
              have hA4 : InsAt w x n l j v2 (pre ++ [(x, n)]) true w4 := HA3.out.push x n hownv2 hgrowv2 (by rw [HA.out.1.eq, HA.out.2.1, insG_put HX.out.2 HX.out.1, insG_true, insG_true, List.append_assoc]; rfl) (by have := hp0; omega) (fun h => by cases h)
              clear q0 q1 hx0 hx1 hlb
              have q0 := hA4.box.cell 0
              have q1 := hA4.box.cell 1
              have hlb := hA4.box.lt
              have hx0 := (Below.cell hA4.below (p := ⟨g, j * 2, none⟩) hg).trans HC.out.1
              have hx1 := (Below.cell hA4.below (p := ⟨g, j * 2 + 1, none⟩) hg).trans HC.out.2
              simp only [List.getElem?_toArray, List.getElem?_cons_succ, List.getElem?_cons_zero] at q0 q1
              have hsz4 := hA4.below.size
              have HA4 := Lib.hid hA4
              clear hA4 hownv2 hgrowv2 hwhv2
              have hNv3 : ∀ jj u, [Value.string x, .int .i64 i][jj]? = some u → (w4.alloc (.cells #[.string x, .int .i64 i] 42)).cell? ((⟨w4.heap.size, 0, none⟩ : Addr).add jj) = some u := sym_news w4 x i
              have hOv3 := HA4.out.own.kept (World.grownBy_alloc w4 (.cells #[.string x, .int .i64 i] 42) none) (by rcases Value.ownBlock v2 with _ | _ <;> simp)
              have HNv3 := Lib.hid (And.intro hNv3 hOv3)
              clear hNv3 hOv3
              go_wp2_with (at_builtin; refine wpList_append_where rfl _ _ 37 rfl (w.heap.size + 1) 42 i0 (.agg #[.string ⟨#[]⟩, .int .i64 0]) 2 24 Tryz.underlying37 hi hz0 hz1 hz2 rfl (by decide) v2 (pre ++ [(x, n)]).length (symsE (pre ++ [(x, n)])) rfl HNv3.out.2 ⟨w4.heap.size, 0, none⟩ 1 1 [.string x, .int .i64 i] rfl rfl HNv3.out.1 (fun y hy => by simp at hy; rcases hy with rfl | rfl <;> rfl) (by have := HA4.out.len; unfold maxLen; omega) (by have := HA4.out.len; omega) (by simp; omega) ?_)
              intro v3 w5 hownv3 hgrowv3 hwhv3
              have hfin : InsAt w x n l (j + 1) v3 ((pre ++ [(x, n)]) ++ [(x, i)]) true w5 := HA4.out.push x i (by rw [len_snoc]; exact hownv3) hgrowv3 (by rw [HA4.out.eq, HA.out.2.1, insG_true, insG_true, List.append_assoc (pre ++ [(x, n)])]; rfl) (by rw [len_snoc]; have := hp0; omega) (fun h => by cases h)
              have HF := Lib.hid hfin
              clear hfin hownv3 hgrowv3 hwhv3 q0 q1 hx0 hx1 hlb
              go_wp2_with fail
              go_roundw
              case rel => exact ⟨j + 1, v3, _, _, rfl, hlt, by go_num, rfl, HF.out⟩
              case measure => simp [intOf]; omega
            · have HX : Hid (0 ≤ symO (x, n) (x, i) ∧ ¬ ((x, i) : Sym) = (x, n)) := ⟨Int.not_lt.1 fun h => (hXs.1 h).elim (fun h => by rw [(cb_zero x.data.toList x.data.toList).2 rfl] at h; omega) (fun h => hni h.2), hXe⟩
              clear hXs hXe
              have hp0 := HA.out.1.len0 rfl
              go_wp2_with fail
              go_region
              have hA2 := HA.out.1.up (symDrew wr)
              generalize wr.drew = W2 at *
              clear q0 q1 hx0 hx1 hlb
              have q0 := hA2.box.cell 0
              have q1 := hA2.box.cell 1
              have hlb := hA2.box.lt
              have hx0 := (Below.cell hA2.below (p := ⟨g, j * 2, none⟩) hg).trans HC.out.1
              have hx1 := (Below.cell hA2.below (p := ⟨g, j * 2 + 1, none⟩) hg).trans HC.out.2
              simp only [List.getElem?_toArray, List.getElem?_cons_succ, List.getElem?_cons_zero] at q0 q1
              have hsz2 := hA2.below.size
              have HA2 := Lib.hid hA2
              clear hA2
              go_wp2_with fail
              go_quiet (fail)
              have hA3 := HA2.out.up (symDrewN W2 nq)
              generalize W2.drewN nq = W3 at *
              clear q0 q1 hx0 hx1 hlb
              have q0 := hA3.box.cell 0
              have q1 := hA3.box.cell 1
              have hlb := hA3.box.lt
              have hx0 := (Below.cell hA3.below (p := ⟨g, j * 2, none⟩) hg).trans HC.out.1
              have hx1 := (Below.cell hA3.below (p := ⟨g, j * 2 + 1, none⟩) hg).trans HC.out.2
              simp only [List.getElem?_toArray, List.getElem?_cons_succ, List.getElem?_cons_zero] at q0 q1
              have hsz3 := hA3.below.size
              have HA3 := Lib.hid hA3
              clear hA3
              have hNv2 : ∀ jj u, [Value.string x, .int .i64 i][jj]? = some u → (W3.alloc (.cells #[.string x, .int .i64 i] 42)).cell? ((⟨W3.heap.size, 0, none⟩ : Addr).add jj) = some u := sym_news W3 x i
              have hOv2 := HA3.out.own.kept (World.grownBy_alloc W3 (.cells #[.string x, .int .i64 i] 42) none) (by rcases Value.ownBlock ov with _ | _ <;> simp)
              have HNv2 := Lib.hid (And.intro hNv2 hOv2)
              clear hNv2 hOv2
              go_wp2_with (at_builtin; refine wpList_append_where rfl _ _ 37 rfl (w.heap.size + 1) 42 i0 (.agg #[.string ⟨#[]⟩, .int .i64 0]) 2 24 Tryz.underlying37 hi hz0 hz1 hz2 rfl (by decide) ov pre.length (symsE pre) rfl HNv2.out.2 ⟨W3.heap.size, 0, none⟩ 1 1 [.string x, .int .i64 i] rfl rfl HNv2.out.1 (fun y hy => by simp at hy; rcases hy with rfl | rfl <;> rfl) (by have := HA3.out.len; unfold maxLen; omega) (by have := HA3.out.len; omega) (by simp; omega) ?_)
              intro v2 w4 hownv2 hgrowv2 hwhv2
              have hfin : InsAt w x n l (j + 1) v2 (pre ++ [(x, i)]) false w4 := HA3.out.push x i hownv2 hgrowv2 (by rw [HA.out.1.eq, HA.out.2.1, insG_skip HX.out.2 HX.out.1, List.append_assoc]; rfl) (by omega) (fun _ => by have := hp0; omega)
              have HF := Lib.hid hfin
              clear hfin hownv2 hgrowv2 hwhv2 q0 q1 hx0 hx1 hlb
              go_wp2_with fail
              go_roundw
              case rel => exact ⟨j + 1, v2, _, _, rfl, hlt, by go_num, rfl, HF.out⟩
              case measure => simp [intOf]; omega
          · go_wp2_with fail
            go_region
            have hA2 := HA.out.1.up (symDrew wr)
            generalize wr.drew = W2 at *
            clear q0 q1 hx0 hx1 hlb
            have q0 := hA2.box.cell 0
            have q1 := hA2.box.cell 1
            have hlb := hA2.box.lt
            have hx0 := (Below.cell hA2.below (p := ⟨g, j * 2, none⟩) hg).trans HC.out.1
            have hx1 := (Below.cell hA2.below (p := ⟨g, j * 2 + 1, none⟩) hg).trans HC.out.2
            simp only [List.getElem?_toArray, List.getElem?_cons_succ, List.getElem?_cons_zero] at q0 q1
            have hsz2 := hA2.below.size
            have HA2 := Lib.hid hA2
            clear hA2
            go_wp2_with fail
            go_quiet (fail)
            have hA3 := HA2.out.up (symDrewN W2 nq)
            generalize W2.drewN nq = W3 at *
            clear q0 q1 hx0 hx1 hlb
            have q0 := hA3.box.cell 0
            have q1 := hA3.box.cell 1
            have hlb := hA3.box.lt
            have hx0 := (Below.cell hA3.below (p := ⟨g, j * 2, none⟩) hg).trans HC.out.1
            have hx1 := (Below.cell hA3.below (p := ⟨g, j * 2 + 1, none⟩) hg).trans HC.out.2
            simp only [List.getElem?_toArray, List.getElem?_cons_succ, List.getElem?_cons_zero] at q0 q1
            have hsz3 := hA3.below.size
            have HA3 := Lib.hid hA3
            clear hA3
            have hNv2 : ∀ jj u, [Value.string x, .int .i64 i][jj]? = some u → (W3.alloc (.cells #[.string x, .int .i64 i] 42)).cell? ((⟨W3.heap.size, 0, none⟩ : Addr).add jj) = some u := sym_news W3 x i
            have hOv2 := HA3.out.own.kept (World.grownBy_alloc W3 (.cells #[.string x, .int .i64 i] 42) none) (by rcases Value.ownBlock ov with _ | _ <;> simp)
            have HNv2 := Lib.hid (And.intro hNv2 hOv2)
            clear hNv2 hOv2
            go_wp2_with (at_builtin; refine wpList_append_where rfl _ _ 37 rfl (w.heap.size + 1) 42 i0 (.agg #[.string ⟨#[]⟩, .int .i64 0]) 2 24 Tryz.underlying37 hi hz0 hz1 hz2 rfl (by decide) ov pre.length (symsE pre) rfl HNv2.out.2 ⟨W3.heap.size, 0, none⟩ 1 1 [.string x, .int .i64 i] rfl rfl HNv2.out.1 (fun y hy => by simp at hy; rcases hy with rfl | rfl <;> rfl) (by have := HA3.out.len; unfold maxLen; omega) (by have := HA3.out.len; omega) (by simp; omega) ?_)
            intro v2 w4 hownv2 hgrowv2 hwhv2
            have hfin : InsAt w x n l (j + 1) v2 (pre ++ [(x, i)]) true w4 := HA3.out.push x i hownv2 hgrowv2 (by rw [HA.out.1.eq, HA.out.2.1]; simp [insG]) (by omega) (fun h => by cases h)
            have HF := Lib.hid hfin
            clear hfin hownv2 hgrowv2 hwhv2 q0 q1 hx0 hx1 hlb
            go_wp2_with fail
            go_roundw
            case rel => exact ⟨j + 1, v2, _, _, rfl, hlt, by go_num, rfl, HF.out⟩
            case measure => simp [intOf]; omega
      · have hx' : ¬ x.toList = s.toList := fun e => hx (by rwa [bytes_toList, bytes_toList, str_eq] at e)
        cases d
        · have hXs := sym_lt (s, n) (x, i)
          have hXe : ¬ ((x, i) : Sym) = (s, n) := fun e => hx (Prod.mk.inj e).1
          have hBl := bytesLess_cmp s.toList x.toList
          have hBe : (s.toList == x.toList) = false := by rw [beq_eq_false_iff_ne]; exact fun e => hx' e.symm
          by_cases hsx : Lib.compareBytes s.data.toList x.data.toList < 0
          · have HX : Hid (symO (s, n) (x, i) < 0 ∧ ¬ ((x, i) : Sym) = (s, n)) := ⟨hXs.2 (.inl hsx), hXe⟩
            have hB1 : Op.bytesLess s.toList x.toList = true := by rw [hBl, bytes_toList, bytes_toList]; simpa using hsx
            clear hXs hXe hBl hsx
            have hp0 := HA.out.1.len0 rfl
            go_wp2_with fail
            go_region
            have hA2 := HA.out.1.up (symDrew wr)
            generalize wr.drew = W2 at *
            clear q0 q1 hx0 hx1 hlb
            have q0 := hA2.box.cell 0
            have q1 := hA2.box.cell 1
            have hlb := hA2.box.lt
            have hx0 := (Below.cell hA2.below (p := ⟨g, j * 2, none⟩) hg).trans HC.out.1
            have hx1 := (Below.cell hA2.below (p := ⟨g, j * 2 + 1, none⟩) hg).trans HC.out.2
            simp only [List.getElem?_toArray, List.getElem?_cons_succ, List.getElem?_cons_zero] at q0 q1
            have hsz2 := hA2.below.size
            have HA2 := Lib.hid hA2
            clear hA2
            go_wp2_with fail
            go_quiet (fail)
            have hA3 := HA2.out.up (symDrewN W2 nq)
            generalize W2.drewN nq = W3 at *
            clear q0 q1 hx0 hx1 hlb
            have q0 := hA3.box.cell 0
            have q1 := hA3.box.cell 1
            have hlb := hA3.box.lt
            have hx0 := (Below.cell hA3.below (p := ⟨g, j * 2, none⟩) hg).trans HC.out.1
            have hx1 := (Below.cell hA3.below (p := ⟨g, j * 2 + 1, none⟩) hg).trans HC.out.2
            simp only [List.getElem?_toArray, List.getElem?_cons_succ, List.getElem?_cons_zero] at q0 q1
            have hsz3 := hA3.below.size
            have HA3 := Lib.hid hA3
            clear hA3
            have hNv2 : ∀ jj u, [Value.string s, .int .i64 n][jj]? = some u → (W3.alloc (.cells #[.string s, .int .i64 n] 42)).cell? ((⟨W3.heap.size, 0, none⟩ : Addr).add jj) = some u := sym_news W3 s n
            have hOv2 := HA3.out.own.kept (World.grownBy_alloc W3 (.cells #[.string s, .int .i64 n] 42) none) (by rcases Value.ownBlock ov with _ | _ <;> simp)
            have HNv2 := Lib.hid (And.intro hNv2 hOv2)
            clear hNv2 hOv2
            go_wp2_with (at_builtin; refine wpList_append_where rfl _ _ 37 rfl (w.heap.size + 1) 42 i0 (.agg #[.string ⟨#[]⟩, .int .i64 0]) 2 24 Tryz.underlying37 hi hz0 hz1 hz2 rfl (by decide) ov pre.length (symsE pre) rfl HNv2.out.2 ⟨W3.heap.size, 0, none⟩ 1 1 [.string s, .int .i64 n] rfl rfl HNv2.out.1 (fun y hy => by simp at hy; rcases hy with rfl | rfl <;> rfl) (by have := HA3.out.len; unfold maxLen; omega) (by have := HA3.out.len; omega) (by simp; omega) ?_)
            intro v2 w4 hownv2 hgrowv2 hwhv2
            have hA4 : InsAt w s n l j v2 (pre ++ [(s, n)]) true w4 := HA3.out.push s n hownv2 hgrowv2 (by rw [HA.out.1.eq, HA.out.2.1, insG_put HX.out.2 HX.out.1, insG_true, insG_true, List.append_assoc]; rfl) (by have := hp0; omega) (fun h => by cases h)
            clear q0 q1 hx0 hx1 hlb
            have q0 := hA4.box.cell 0
            have q1 := hA4.box.cell 1
            have hlb := hA4.box.lt
            have hx0 := (Below.cell hA4.below (p := ⟨g, j * 2, none⟩) hg).trans HC.out.1
            have hx1 := (Below.cell hA4.below (p := ⟨g, j * 2 + 1, none⟩) hg).trans HC.out.2
            simp only [List.getElem?_toArray, List.getElem?_cons_succ, List.getElem?_cons_zero] at q0 q1
            have hsz4 := hA4.below.size
            have HA4 := Lib.hid hA4
            clear hA4 hownv2 hgrowv2 hwhv2
            have hNv3 : ∀ jj u, [Value.string x, .int .i64 i][jj]? = some u → (w4.alloc (.cells #[.string x, .int .i64 i] 42)).cell? ((⟨w4.heap.size, 0, none⟩ : Addr).add jj) = some u := sym_news w4 x i
            have hOv3 := HA4.out.own.kept (World.grownBy_alloc w4 (.cells #[.string x, .int .i64 i] 42) none) (by rcases Value.ownBlock v2 with _ | _ <;> simp)
            have HNv3 := Lib.hid (And.intro hNv3 hOv3)
            clear hNv3 hOv3
            go_wp2_with (at_builtin; refine wpList_append_where rfl _ _ 37 rfl (w.heap.size + 1) 42 i0 (.agg #[.string ⟨#[]⟩, .int .i64 0]) 2 24 Tryz.underlying37 hi hz0 hz1 hz2 rfl (by decide) v2 (pre ++ [(s, n)]).length (symsE (pre ++ [(s, n)])) rfl HNv3.out.2 ⟨w4.heap.size, 0, none⟩ 1 1 [.string x, .int .i64 i] rfl rfl HNv3.out.1 (fun y hy => by simp at hy; rcases hy with rfl | rfl <;> rfl) (by have := HA4.out.len; unfold maxLen; omega) (by have := HA4.out.len; omega) (by simp; omega) ?_)
            intro v3 w5 hownv3 hgrowv3 hwhv3
            have hfin : InsAt w s n l (j + 1) v3 ((pre ++ [(s, n)]) ++ [(x, i)]) true w5 := HA4.out.push x i (by rw [len_snoc]; exact hownv3) hgrowv3 (by rw [HA4.out.eq, HA.out.2.1, insG_true, insG_true, List.append_assoc (pre ++ [(s, n)])]; rfl) (by rw [len_snoc]; have := hp0; omega) (fun h => by cases h)
            have HF := Lib.hid hfin
            clear hfin hownv3 hgrowv3 hwhv3 q0 q1 hx0 hx1 hlb
            go_wp2_with fail
            go_roundw
            case rel => exact ⟨j + 1, v3, _, _, rfl, hlt, by go_num, rfl, HF.out⟩
            case measure => simp [intOf]; omega
          · have HX : Hid (0 ≤ symO (s, n) (x, i) ∧ ¬ ((x, i) : Sym) = (s, n)) := ⟨Int.not_lt.1 fun h => (hXs.1 h).elim hsx (fun h => hx h.1.symm), hXe⟩
            have hB1 : Op.bytesLess s.toList x.toList = false := by rw [hBl, bytes_toList, bytes_toList]; simpa using hsx
            clear hXs hXe hBl hsx
            have hp0 := HA.out.1.len0 rfl
            go_wp2_with fail
            go_region
            have hA2 := HA.out.1.up (symDrew wr)
            generalize wr.drew = W2 at *
            clear q0 q1 hx0 hx1 hlb
            have q0 := hA2.box.cell 0
            have q1 := hA2.box.cell 1
            have hlb := hA2.box.lt
            have hx0 := (Below.cell hA2.below (p := ⟨g, j * 2, none⟩) hg).trans HC.out.1
            have hx1 := (Below.cell hA2.below (p := ⟨g, j * 2 + 1, none⟩) hg).trans HC.out.2
            simp only [List.getElem?_toArray, List.getElem?_cons_succ, List.getElem?_cons_zero] at q0 q1
            have hsz2 := hA2.below.size
            have HA2 := Lib.hid hA2
            clear hA2
            go_wp2_with fail
            go_quiet (fail)
            have hA3 := HA2.out.up (symDrewN W2 nq)
            generalize W2.drewN nq = W3 at *
            clear q0 q1 hx0 hx1 hlb
            have q0 := hA3.box.cell 0
            have q1 := hA3.box.cell 1
            have hlb := hA3.box.lt
            have hx0 := (Below.cell hA3.below (p := ⟨g, j * 2, none⟩) hg).trans HC.out.1
            have hx1 := (Below.cell hA3.below (p := ⟨g, j * 2 + 1, none⟩) hg).trans HC.out.2
            simp only [List.getElem?_toArray, List.getElem?_cons_succ, List.getElem?_cons_zero] at q0 q1
            have hsz3 := hA3.below.size
            have HA3 := Lib.hid hA3
            clear hA3
            have hNv2 : ∀ jj u, [Value.string x, .int .i64 i][jj]? = some u → (W3.alloc (.cells #[.string x, .int .i64 i] 42)).cell? ((⟨W3.heap.size, 0, none⟩ : Addr).add jj) = some u := sym_news W3 x i
            have hOv2 := HA3.out.own.kept (World.grownBy_alloc W3 (.cells #[.string x, .int .i64 i] 42) none) (by rcases Value.ownBlock ov with _ | _ <;> simp)
            have HNv2 := Lib.hid (And.intro hNv2 hOv2)
            clear hNv2 hOv2
            go_wp2_with (at_builtin; refine wpList_append_where rfl _ _ 37 rfl (w.heap.size + 1) 42 i0 (.agg #[.string ⟨#[]⟩, .int .i64 0]) 2 24 Tryz.underlying37 hi hz0 hz1 hz2 rfl (by decide) ov pre.length (symsE pre) rfl HNv2.out.2 ⟨W3.heap.size, 0, none⟩ 1 1 [.string x, .int .i64 i] rfl rfl HNv2.out.1 (fun y hy => by simp at hy; rcases hy with rfl | rfl <;> rfl) (by have := HA3.out.len; unfold maxLen; omega) (by have := HA3.out.len; omega) (by simp; omega) ?_)
            intro v2 w4 hownv2 hgrowv2 hwhv2
            have hfin : InsAt w s n l (j + 1) v2 (pre ++ [(x, i)]) false w4 := HA3.out.push x i hownv2 hgrowv2 (by rw [HA.out.1.eq, HA.out.2.1, insG_skip HX.out.2 HX.out.1, List.append_assoc]; rfl) (by omega) (fun _ => by have := hp0; omega)
            have HF := Lib.hid hfin
            clear hfin hownv2 hgrowv2 hwhv2 q0 q1 hx0 hx1 hlb
            go_wp2_with fail
            go_roundw
            case rel => exact ⟨j + 1, v2, _, _, rfl, hlt, by go_num, rfl, HF.out⟩
            case measure => simp [intOf]; omega
        · go_wp2_with fail
          go_region
          have hA2 := HA.out.1.up (symDrew wr)
          generalize wr.drew = W2 at *
          clear q0 q1 hx0 hx1 hlb
          have q0 := hA2.box.cell 0
          have q1 := hA2.box.cell 1
          have hlb := hA2.box.lt
          have hx0 := (Below.cell hA2.below (p := ⟨g, j * 2, none⟩) hg).trans HC.out.1
          have hx1 := (Below.cell hA2.below (p := ⟨g, j * 2 + 1, none⟩) hg).trans HC.out.2
          simp only [List.getElem?_toArray, List.getElem?_cons_succ, List.getElem?_cons_zero] at q0 q1
          have hsz2 := hA2.below.size
          have HA2 := Lib.hid hA2
          clear hA2
          go_wp2_with fail
          go_quiet (fail)
          have hA3 := HA2.out.up (symDrewN W2 nq)
          generalize W2.drewN nq = W3 at *
          clear q0 q1 hx0 hx1 hlb
          have q0 := hA3.box.cell 0
          have q1 := hA3.box.cell 1
          have hlb := hA3.box.lt
          have hx0 := (Below.cell hA3.below (p := ⟨g, j * 2, none⟩) hg).trans HC.out.1
          have hx1 := (Below.cell hA3.below (p := ⟨g, j * 2 + 1, none⟩) hg).trans HC.out.2
          simp only [List.getElem?_toArray, List.getElem?_cons_succ, List.getElem?_cons_zero] at q0 q1
          have hsz3 := hA3.below.size
          have HA3 := Lib.hid hA3
          clear hA3
          have hNv2 : ∀ jj u, [Value.string x, .int .i64 i][jj]? = some u → (W3.alloc (.cells #[.string x, .int .i64 i] 42)).cell? ((⟨W3.heap.size, 0, none⟩ : Addr).add jj) = some u := sym_news W3 x i
          have hOv2 := HA3.out.own.kept (World.grownBy_alloc W3 (.cells #[.string x, .int .i64 i] 42) none) (by rcases Value.ownBlock ov with _ | _ <;> simp)
          have HNv2 := Lib.hid (And.intro hNv2 hOv2)
          clear hNv2 hOv2
          go_wp2_with (at_builtin; refine wpList_append_where rfl _ _ 37 rfl (w.heap.size + 1) 42 i0 (.agg #[.string ⟨#[]⟩, .int .i64 0]) 2 24 Tryz.underlying37 hi hz0 hz1 hz2 rfl (by decide) ov pre.length (symsE pre) rfl HNv2.out.2 ⟨W3.heap.size, 0, none⟩ 1 1 [.string x, .int .i64 i] rfl rfl HNv2.out.1 (fun y hy => by simp at hy; rcases hy with rfl | rfl <;> rfl) (by have := HA3.out.len; unfold maxLen; omega) (by have := HA3.out.len; omega) (by simp; omega) ?_)
          intro v2 w4 hownv2 hgrowv2 hwhv2
          have hfin : InsAt w s n l (j + 1) v2 (pre ++ [(x, i)]) true w4 := HA3.out.push x i hownv2 hgrowv2 (by rw [HA.out.1.eq, HA.out.2.1]; simp [insG]) (by omega) (fun h => by cases h)
          have HF := Lib.hid hfin
          clear hfin hownv2 hgrowv2 hwhv2 q0 q1 hx0 hx1 hlb
          go_wp2_with fail
          go_roundw
          case rel => exact ⟨j + 1, v2, _, _, rfl, hlt, by go_num, rfl, HF.out⟩
          case measure => simp [intOf]; omega
    · have hjl : j = l.length := by omega
      have HA := Lib.hid hA
      clear hA
      cases d
      · have hNv2 : ∀ jj u, [Value.string s, .int .i64 n][jj]? = some u → (wr.alloc (.cells #[.string s, .int .i64 n] 42)).cell? ((⟨wr.heap.size, 0, none⟩ : Addr).add jj) = some u := sym_news wr s n
        have hOv2 := HA.out.own.kept (World.grownBy_alloc wr (.cells #[.string s, .int .i64 n] 42) none) (by rcases Value.ownBlock ov with _ | _ <;> simp)
        have HNv2 := Lib.hid (And.intro hNv2 hOv2)
        clear hNv2 hOv2
        go_wp2_with (at_builtin; refine wpList_append_where rfl _ _ 37 rfl (w.heap.size + 1) 42 i0 (.agg #[.string ⟨#[]⟩, .int .i64 0]) 2 24 Tryz.underlying37 hi hz0 hz1 hz2 rfl (by decide) ov pre.length (symsE pre) rfl HNv2.out.2 ⟨wr.heap.size, 0, none⟩ 1 1 [.string s, .int .i64 n] rfl rfl HNv2.out.1 (fun y hy => by simp at hy; rcases hy with rfl | rfl <;> rfl) (by have := HA.out.len; unfold maxLen; omega) (by have := HA.out.len; omega) (by simp; omega) ?_)
        intro v2 w4 hownv2 hgrowv2 hwhv2
        have hnew := HA.out.push (j' := l.length) (d' := true) s n hownv2 hgrowv2 (by rw [HA.out.eq, hjl, List.drop_length]; simp [insG]) (by have := HA.out.len0 rfl; omega) (fun h => by cases h)
        have HF := Lib.hid hnew
        clear hnew hownv2 hgrowv2 hwhv2 q0 q1 hlb
        go_wp2_with fail
        go_ret
        have he := HF.out.eq
        rw [List.drop_length] at he
        simp only [insG, if_true, List.append_nil] at he
        refine ⟨v2, rfl, ?_, HF.out.below⟩
        rw [he]
        exact row_base HF.out.own (by omega)
      · go_wp2_with fail
        go_ret
        have he := HA.out.eq
        rw [hjl, List.drop_length] at he
        simp only [insG, if_true, List.append_nil] at he
        refine ⟨ov, rfl, ?_, HA.out.below⟩
        rw [he]
        exact row_base HA.out.own (by omega)
-- BEHIND insert_any
end Go.Proofs.YtdigiaigbcfccaaGreatDoor

/- Two rows of the same symbols are equal. -/
namespace Go.Proofs.YtdigiaigbcfccaaGreatDoor
open Go.RowKit Go

attribute [local go_sem] eqGuardSym
/-- v is a slice of these symbols. -/
def RdY (W : World) (l : List Sym) (v : Value) : Prop := ∃ (a : Option Addr) (c : Nat), v = .slice a l.length c ∧ (0 < l.length → ∃ g, a = some ⟨g, 0, none⟩ ∧ g < W.heap.size ∧ ∀ j (h : j < l.length), W.cell? ⟨g, j * 2, none⟩ = some (.string l[j].1) ∧ W.cell? ⟨g, j * 2 + 1, none⟩ = some (.int .i64 l[j].2))
theorem RdY.of {base : Nat} {w : World} {o : Value} {l : List Sym} (ho : w.ownsRow base 42 2 o l.length (symsE l)) : RdY w l o := by
  rcases ho.2 with ⟨rfl, h0⟩ | ⟨g, cap, cur, rfl, _⟩
  · exact ⟨none, 0, by rw [h0], fun h => by omega⟩
  · refine ⟨_, cap, rfl, fun _ => ⟨g, rfl, (ho.lt g rfl).2, fun j hj => ?_⟩⟩
    have e0 := symsE_get l (j * 2) (by omega)
    have e1 := symsE_get l (j * 2 + 1) (by omega)
    rw [show j * 2 / 2 = j by omega, show j * 2 % 2 = 0 by omega, getElem!_pos l j hj] at e0
    rw [show (j * 2 + 1) / 2 = j by omega, show (j * 2 + 1) % 2 = 1 by omega, getElem!_pos l j hj] at e1
    have c0 := ho.cells (g := g) rfl _ _ e0
    have c1 := ho.cells (g := g) rfl _ _ e1
    rw [Addr.add_lit, Nat.zero_add] at c0 c1
    exact ⟨c0, c1⟩
theorem RdY.keep {W W' : World} {l : List Sym} {v : Value} (h : RdY W l v) (hb : Below W.heap.size W W') : RdY W' l v := by
  obtain ⟨a, c, e, h1⟩ := h
  refine ⟨a, c, e, fun h0 => ?_⟩
  obtain ⟨g, e2, h3, h4⟩ := h1 h0
  exact ⟨g, e2, Nat.lt_of_lt_of_le h3 hb.size, fun j hj => ⟨(Below.cell hb (p := ⟨g, j * 2, none⟩) h3).trans (h4 j hj).1, (Below.cell hb (p := ⟨g, j * 2 + 1, none⟩) h3).trans (h4 j hj).2⟩⟩
set_option maxRecDepth 100000 in
set_option maxHeartbeats 2000000 in
theorem equalY_any (l : List Sym) (v u : Value) (w : World) (hv : RdY w l v) (hu : RdY w l u) (hl : l.length ≤ 1000000) :
    Calls Tryz.prog 17 #[v, u] w fun e w' => e = .returned (.bool true) ∧ Below w.heap.size w w' := by
  obtain ⟨a, c, rfl, ha⟩ := hv
  obtain ⟨a', c', rfl, ha'⟩ := hu
  have hlm : l.length ≤ 9223372036854775807 := by omega
  have HA := Lib.hid ha
  have HA' := Lib.hid ha'
  clear ha ha'
  go_enter Tryz.func17, Tryz.ntmps17
  go_wp2_with fail
  go_loopw [13] (fun iv wr => ∃ j : Nat, j ≤ l.length ∧ iv = .int .i64 j ∧ Below w.heap.size w wr) (fun iv _ => l.length - (intOf iv).toNat)
  case atStart => exact ⟨0, Nat.zero_le _, rfl, Below.refl _ _⟩
  case round =>
    obtain ⟨j, hj, rfl, hB⟩ := hrel
    by_cases hlt : j < l.length
    · obtain ⟨g, rfl, hg, hc⟩ := HA.out (by omega)
      obtain ⟨g', rfl, hg', hc'⟩ := HA'.out (by omega)
      have hx0 := (Below.cell hB (p := ⟨g, j * 2, none⟩) hg).trans (hc j hlt).1
      have hx1 := (Below.cell hB (p := ⟨g, j * 2 + 1, none⟩) hg).trans (hc j hlt).2
      have hy0 := (Below.cell hB (p := ⟨g', j * 2, none⟩) hg').trans (hc' j hlt).1
      have hy1 := (Below.cell hB (p := ⟨g', j * 2 + 1, none⟩) hg').trans (hc' j hlt).2
      obtain ⟨x, i, hxi⟩ : ∃ x i, l[j] = (x, i) := ⟨_, _, rfl⟩
      rw [hxi] at hx0 hx1 hy0 hy1
      simp only at hx0 hx1 hy0 hy1
      have hsz := hB.size
      have hgw : g < wr.heap.size := by omega
      have hgw' : g' < wr.heap.size := by omega
      clear hc hc' hxi
      go_wp2_with fail
      go_region
      have hB2 := hB.trans ((symDrew wr).mono hB.size)
      clear hx0 hx1 hy0 hy1 hB
      generalize wr.drew = W2 at *
      go_wp2_with fail
      go_roundw
      case rel => exact ⟨j + 1, hlt, by go_num, hB2⟩
      case measure => simp [intOf]; omega
    · go_wp2_with fail
      go_ret
      exact ⟨rfl, hB⟩
end Go.Proofs.YtdigiaigbcfccaaGreatDoor
