/- Trees numbered anew: the second readings of Normal and Variant. -/
import Derived.Test.YtlaeaoecmnaneaaDoorRefNum
import Derived.Test.YtlaeaoecmnaneaaDoorTog
import Derived.Test.YtlaeaoecmnaneaaDoorVariant
namespace Go.Proofs.YtlaeaoecmnaneaaDoor
open Go.RowKit Go

attribute [local go_sem] monoUpon Yld.says

/-- Two lists are handed back: trees, and numbers. -/
def NmPost (L : List Tr) (ns : List Int) (w : World) (e : Ending) (w' : World) : Prop := ∃ a c u, e = .returned (.tuple #[.slice a L.length c, u]) ∧ L.length ≤ c ∧ c ≤ maxLen ∧ IsL w'.heap.size w' L a ∧ RdN w'.heap.size w' ns u ∧ Below w.heap.size w w'
theorem NmPost.mk {L L' : List Tr} {ns : List Int} {w w' : World} {a : Option Addr} {c : Nat} {u : Value} (hL : L' = L) (h1 : L'.length ≤ c) (h2 : c ≤ maxLen) (h3 : IsL w'.heap.size w' L' a) (h4 : RdN w'.heap.size w' ns u) (hB : Below w.heap.size w w') : NmPost L ns w (.returned (.tuple #[.slice a L'.length c, u])) w' := by
  subst hL
  exact ⟨a, c, u, rfl, h1, h2, h3, h4, hB⟩
structure NlAt (w : World) (lo : Nat) (ns : List Int) (u : Value) (l : List Tr) (j : Nat) (ov : Value) (xs : List Value) (wr : World) : Prop where
  row : RowG none 0 lo w ((l.take j).map (renT (idxR ns))) ov xs wr
  nums : Nums 0 wr u ns
  old : ∀ b, u.ownBlock = some b → b < lo
theorem NlAt.keep {w : World} {lo : Nat} {ns : List Int} {u : Value} {l : List Tr} {j : Nat} {ov : Value} {xs : List Value} {wr W : World} (h : NlAt w lo ns u l j ov xs wr) (B : Below wr.heap.size wr W) : NlAt w lo ns u l j ov xs W :=
  ⟨h.row.keep B, h.nums.keep B, h.old⟩

set_option maxRecDepth 100000 in
set_option maxHeartbeats 4000000 in
theorem refNumbered_any (l : List Tr) (a : Option Addr) (c : Nat) (w : World) (hl : IsL w.heap.size w l a) (hsz : sizeL l ≤ 1000000) :
    Calls Tryd.prog 105 #[.slice a l.length c] w (NmPost (l.map (renT (idxR (varsL [] l)))) (varsL [] l) w) := by
  have hvl := varsL_length l
  have hln := length_le_sizeL l
  have hlm : l.length ≤ 9223372036854775807 := by omega
  have HL := Lib.hid hl
  have HV := Lib.hid (refVarsOf_any l a c w hl hsz)
  obtain ⟨i0, hi, hz0, hz1, hz2⟩ := info_parts infoTerm
  clear hl
  go_enter Tryd.func105, Tryd.ntmps105
  go_wp2_with fail
  refine HV.out.mono ?_
  rintro e W1 ⟨u, rfl, hN, hB⟩
  clear HV
  generalize varsL [] l = ns at *
  have hw1 := hB.size
  have hS0 : NlAt w W1.heap.size ns u l 0 (.slice none 0 0) [] W1 := ⟨RowG.nil (grown_b none hB) (Nat.zero_le _) (fun p e => by cases e) hB.size (Nat.le_refl _), hN.base (Nat.zero_le _), fun b e => (hN.lt b e).2⟩
  have HS0 := Lib.hid hS0
  clear hS0 hN hB
  go_wp2_with fail
  go_loopw [5, 6] (fun sv iv wr => ∃ (j : Nat) (ov : Value) (xs : List Value), ov = sv ∧ j ≤ l.length ∧ iv = .int .i64 j ∧ NlAt w W1.heap.size ns u l j ov xs wr) (fun _ iv _ => l.length - (intOf iv).toNat)
  case atStart => exact ⟨0, _, _, rfl, Nat.zero_le _, rfl, HS0.out⟩
  case round =>
    clear HS0
    obtain ⟨j, ov, xs, rfl, hj, rfl, hS⟩ := hrel
    have HA := Lib.hid hS
    have hBr := none_below2 hS.row.grown
    clear hS
    by_cases hlt : j < l.length
    · obtain ⟨b, off, rfl, hbb⟩ := HL.out.addr (by omega)
      obtain ⟨tk, tn, ts, tl, ta, tc, te, d0, d1, d2, d3, ht⟩ := HL.out.node' hbb hBr j hlt
      have hbw : b < wr.heap.size := by have := hBr.size; omega
      have hcall := numbered_any ns (by omega) l[j] _ u wr (ht.up hBr hBr.size) HA.out.nums (by have := size_mem (List.getElem_mem hlt); omega)
      have HC := Lib.hid hcall
      clear te ht hcall hBr
      go_wp2_with fail
      refine HC.out.mono ?_
      rintro e W2 ⟨yk, yx, ys, ya, ym, yc, rfl, hP, B⟩
      have hA1 := HA.out.keep B
      have hlen : ((l.take j).map (renT (idxR ns))).length = j := by simp; omega
      have hPo := OB.from HA.out.row (Nat.le_refl _) (IsP.map (q := OA 0 wr.heap.size W2) (B := W2) (fun b hb => ⟨⟨.inr hb.1, hb.2⟩, rfl⟩) _ _ hP)
      have hown := hA1.row.own
      rw [hlen] at hown
      have hlo := hA1.row.hlo
      have HX := Lib.hid (And.intro hA1 (And.intro hPo hlen))
      clear HC B hA1 hPo hlen hP d0 d1 d2 d3
      go_wp2_with (at_builtin; refine wpList_append_where rfl _ _ 22 rfl W1.heap.size 25 i0 _ 4 56 Tryd.underlying22 hi hz0 hz1 hz2 rfl (by decide) _ _ _ rfl (World.ownsRow.alloc hown _) ⟨W2.heap.size, 0, none⟩ 1 1 [.int .i64 yk, .int .i64 yx, .string ys, .slice ya ym yc] rfl rfl (cells_of_box (Box.at rfl)) (one_cells _ _ _ _ _ _) (by unfold maxLen; omega) (by omega) (by simp; omega) ?_)
      intro v2 w3 hown3 hgrow hwh
      obtain ⟨hA1, hPo, hlen⟩ := HX.out
      have hRn := hA1.row.push hPo (by rw [hlen]; exact hown3) hgrow (fun b h => (hwh b h).imp id (fun h => by first | omega | (simp at h; omega)))
      rw [← List.map_singleton, ← List.map_append, ← List.take_succ_eq_append_getElem hlt] at hRn
      have hst : NlAt w W1.heap.size ns u l (j + 1) v2 _ w3 := ⟨hRn, hA1.nums.at fun g e => by
        have h1 := hA1.old g e
        have h2 := (hA1.nums.lt g e).2
        exact (hgrow.block g (by simp; omega) (fun e' => by have := (hA1.row.block e'.symm).1; omega)).trans (Below.heap_alloc W2 _ g h2), hA1.old⟩
      have HN := Lib.hid hst
      clear hst hRn hown3 hgrow hwh hown hA1 hPo hlen HX
      go_wp2_with fail
      go_roundw
      case rel => exact ⟨j + 1, _, _, rfl, hlt, by go_num, HN.out⟩
      case measure => simp [intOf]; omega
    · have et : l.take j = l := List.take_of_length_le (by omega)
      have hrow := HA.out.row
      rw [et] at hrow
      obtain ⟨oa, oc, hov, ho1, ho2, ho3⟩ := hrow.done
      subst hov
      have HX := Lib.hid (And.intro ho1 (And.intro ho2 ho3))
      clear hrow ho1 ho2 ho3 et hBr
      go_wp2_with fail
      exact bodyPost_ret (v := .tuple #[.slice oa (l.map (renT (idxR ns))).length oc, u]) (by simp [results, Tryd.results105, go_sem]) rfl (NmPost.mk rfl HX.out.1 HX.out.2.1 (OA.lt HX.out.2.2) HA.out.nums.rd (none_below2 HA.out.row.grown))
theorem idxR_hit {ns : List Int} {y : Int} (h : y ∈ ns) : idxR ns y = (ns.idxOf y : Int) := by rw [idxR, if_pos h]
/-- Numbered by the places of its variables, a list of terms is normal. -/
theorem num_norm {l : List Tr} (h : goodL l = true) : l.map (renT (idxR (varsL [] l))) = normT l := by
  rw [normT_ren, ← renL_map]
  exact renL_agree h fun x hx => by
    have hm := (varsL_mem h).2 hx
    rw [idxR_hit hm, numV_idx (varsL_nodup l) hm]
/-- What Normal hands back. -/
def NoPost (l : List Tr) (w : World) (e : Ending) (w' : World) : Prop := ∃ a c u, e = .returned (.tuple #[.slice a (if togB l then normT l else []).length c, u, .int .i64 (errI (togB l))]) ∧ IsS w'.heap.size w' (if togB l then normT l else []) (.slice a (if togB l then normT l else []).length c) ∧ RdN w'.heap.size w' (if togB l then varsL [] l else []) u ∧ Below w.heap.size w w'
theorem NoPost.no {l : List Tr} {w w' : World} (h : togB l = false) (hB : Below w.heap.size w w') : NoPost l w (.returned (.tuple #[.slice none 0 0, .slice none 0 0, .int .i64 3])) w' := by
  unfold NoPost
  rw [h]
  exact ⟨none, 0, _, rfl, ⟨none, 0, rfl, Nat.le_refl _, by decide, IsL.nil⟩, ⟨none, 0, rfl, by simp, fun h => by simp at h⟩, hB⟩
theorem normal_no (l : List Tr) (a : Option Addr) (c : Nat) (w : World) (hm : l.length ≤ maxLen) (hl : IsL w.heap.size w l a) (hdp : ∀ t, t ∈ l → t.deep ≤ 999999999) :
    Calls Tryd.prog 45 #[.slice a l.length c] w (NoPost l w) := by
  refine Calls.mono (Normal_any l a c w hm hl hdp) ?_
  rintro e w' ⟨hB, h⟩
  cases hr : togB l with
  | false =>
    rw [hr] at h
    subst h
    exact NoPost.no hr hB
  | true =>
    rw [hr] at h
    obtain ⟨v, u, rfl, hP, hN⟩ := h
    obtain ⟨a', c', rfl, h1, h2, h3⟩ := hP
    unfold NoPost
    rw [hr]
    exact ⟨a', c', u, rfl, ⟨a', c', rfl, h1, h2, IsPL.toL (fun _ hb => hb.2) _ _ h3⟩, hN.rd, hB⟩

theorem refCheckAllN_any (l : List Tr) (a : Option Addr) (c : Nat) (w : World) (hl : IsL w.heap.size w l a) (hs : sizeL l ≤ 1000000) (hd : ∀ t, t ∈ l → t.deep ≤ 1000000000) :
    Calls Tryd.prog 19 #[.slice a l.length c] w fun e w' => e = .returned (.int .i64 (errI (togB l))) ∧ Below w.heap.size w w' := by
  go_enter Tryd.func19, Tryd.ntmps19
  go_wp2_with fail
  refine (refTogN_any l a c w hl hs hd).mono ?_
  rintro e w1 ⟨rfl, hB⟩
  obtain ⟨r, hr⟩ : ∃ r, togB l = r := ⟨_, rfl⟩
  have HR := Lib.hid hr
  rw [hr]
  clear hr
  cases r <;> (go_wp2_with fail; go_ret; exact ⟨by rw [HR.out]; rfl, hB⟩)

set_option maxRecDepth 100000 in
set_option maxHeartbeats 2000000 in
theorem refNormal_any (l : List Tr) (a : Option Addr) (c : Nat) (w : World) (hl : IsL w.heap.size w l a) (hsz : sizeL l ≤ 1000000) (hd : ∀ t, t ∈ l → t.deep ≤ 1000000000) :
    Calls Tryd.prog 46 #[.slice a l.length c] w (NoPost l w) := by
  have HL := Lib.hid hl
  have HC := Lib.hid (refCheckAllN_any l a c w hl hsz hd)
  clear hl hd
  go_enter Tryd.func46, Tryd.ntmps46
  go_wp2_with fail
  refine HC.out.mono ?_
  rintro e W1 ⟨rfl, B⟩
  clear HC
  cases hr : togB l with
  | false =>
    have HF := Lib.hid (NoPost.no hr B)
    rw [show errI false = 3 from rfl]
    clear hr B
    go_wp2_with fail
    exact bodyPost_ret (v := .tuple #[.slice none 0 0, .slice none 0 0, .int .i64 3]) (by simp [results, Tryd.results46, go_sem]) rfl HF.out
  | true =>
    rw [show errI true = 0 from rfl]
    have HN := Lib.hid (refNumbered_any l a c W1 (HL.out.up B B.size) hsz)
    have HR := Lib.hid (And.intro hr B)
    clear hr B
    go_wp2_with fail
    refine HN.out.mono ?_
    rintro e W2 ⟨oa, oc, u, rfl, h1, h2, h3, h4, hB2⟩
    have hF : NoPost l w (.returned (.tuple #[.slice oa (l.map (renT (idxR (varsL [] l)))).length oc, u, .int .i64 0])) W2 := by
      rw [num_norm (tog_parts HR.out.1).2.2] at h1 h3 ⊢
      unfold NoPost
      rw [HR.out.1]
      exact ⟨oa, oc, u, rfl, ⟨oa, oc, rfl, h1, h2, h3⟩, h4, HR.out.2.trans (hB2.mono HR.out.2.size)⟩
    have HF := Lib.hid hF
    clear hF h1 h2 h3 h4 hB2 HN
    generalize (l.map (renT (idxR (varsL [] l)))).length = len at *
    go_wp2_with fail
    exact bodyPost_ret (v := .tuple #[.slice oa len oc, u, .int .i64 0]) (by simp [results, Tryd.results46, go_sem]) rfl HF.out
end Go.Proofs.YtlaeaoecmnaneaaDoor
