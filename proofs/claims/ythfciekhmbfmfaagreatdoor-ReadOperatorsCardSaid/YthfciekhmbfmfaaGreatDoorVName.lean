/- Names of variables, both readings. -/
import Derived.Test.YthfciekhmbfmfaaGreatDoorChars
import Derived.Lib.ItoaMem
import Derived.Lib.AppendIntMem
import Derived.Lib.AppendStr
import Derived.OwnWalk
import Derived.Test.YthfciekhmbfmfaaGreatDoorWriF
import Derived.Test.YthfciekhmbfmfaaGreatDoorParK
import Derived.Test.YthfciekhmbfmfaaGreatDoorAttS
import Derived.Test.YthfciekhmbfmfaaGreatDoorWriL
namespace Go.Proofs.YthfciekhmbfmfaaGreatDoor
open Go.RowKit Go

/-- The name of a variable. -/
def vnL (m : Nat) : List UInt8 := UInt8.ofNat (65 + m % 26) :: if m < 26 then [] else Lib.decDigits (m / 26)
def vnS (m : Nat) : ByteArray := ⟨(vnL m).toArray⟩
/-- What VarName hands back. -/
def vnV (n : Int) : ByteArray := if n < 0 ∨ 100000 ≤ n then ⟨#[]⟩ else vnS n.toNat
def vnE (n : Int) : Int := if n < 0 ∨ 100000 ≤ n then 1 else 0
def VnQ (s : ByteArray) (x : Int) (w : World) (e : Ending) (w' : World) : Prop := e = .returned (.tuple #[.string s, .int .i64 x]) ∧ Below w.heap.size w w'
theorem vn_no {n : Int} (h : n < 0 ∨ 100000 ≤ n) : vnV n = ⟨#[]⟩ ∧ vnE n = 1 := by rw [vnV, vnE, if_pos h, if_pos h]; exact ⟨rfl, rfl⟩
theorem vn_yes {m : Nat} (h : m < 100000) : vnV m = vnS m ∧ vnE m = 0 := by
  have : ¬ ((m : Int) < 0 ∨ 100000 ≤ (m : Int)) := by omega
  rw [vnV, vnE, if_neg this, if_neg this]
  exact ⟨rfl, rfl⟩
set_option maxRecDepth 100000 in
theorem letter_at (d : Nat) (hd : d < 26) (W : World) (B : Nat) (hb : Box W B #[.int .u8 (65 + (d : Int))] 5) : (convert 62 9 (.slice (some ⟨B, 0, none⟩) 1 1)).run Tryz.prog W = .ok (.string ⟨#[UInt8.ofNat (65 + d)]⟩) W := by
  generalize hc : UInt8.ofNat (65 + d) = c
  have e : (c.toNat : Int) = 65 + (d : Int) := by
    rw [← hc]
    have h1 : (UInt8.ofNat (65 + d)).toNat = (65 + d) % 256 := UInt8.toNat_ofNat'
    omega
  refine byte_at W B c ?_
  rw [e]
  exact hb
theorem vn_small {m : Nat} (h : m < 26) : vnS m = ⟨#[UInt8.ofNat (65 + m % 26)]⟩ := by rw [vnS, vnL, if_pos h]
theorem vn_large {m : Nat} (h : ¬ m < 26) : vnS m = ⟨#[UInt8.ofNat (65 + m % 26)]⟩ ++ ⟨(Lib.decDigits (m / 26)).toArray⟩ := by
  rw [vnS, vnL, if_neg h]
  apply ByteArray.ext
  simp
set_option maxRecDepth 100000 in
set_option maxHeartbeats 1000000 in
theorem refVarName_any (n : Int) (w : World) : Calls Tryz.prog 37 #[.int .i64 n] w (VnQ (vnV n) (vnE n) w) := by
  by_cases h0 : n < 0
  · have HV := Lib.hid (vn_no (.inl h0))
    go_enter Tryz.func37, Tryz.ntmps37
    go_wp2_with fail
    go_ret2
    exact ⟨by rw [HV.out.1, HV.out.2]; rfl, Below.refl _ _⟩
  · by_cases h1 : 100000 ≤ n
    · have HV := Lib.hid (vn_no (.inr h1))
      have d1 : decide (n ≥ 100000) = true := by simpa using h1
      clear h1
      go_enter Tryz.func37, Tryz.ntmps37
      go_wp2_with fail
      go_ret2
      exact ⟨by rw [HV.out.1, HV.out.2]; rfl, Below.refl _ _⟩
    · obtain ⟨m, rfl⟩ : ∃ m : Nat, n = m := ⟨n.toNat, by omega⟩
      have hm : m < 100000 := by omega
      have HV := Lib.hid (vn_yes hm)
      have d1 : decide ((m : Int) ≥ 100000) = false := by simp; omega
      have hr : Int.tmod (m : Int) 26 = ((m % 26 : Nat) : Int) := by rw [Int.tmod_eq_emod_of_nonneg (by omega)]; omega
      have hq : Int.tdiv (m : Int) 26 = ((m / 26 : Nat) : Int) := by rw [Int.tdiv_eq_ediv_of_nonneg (by omega)]; omega
      have hcv := letter_at (m % 26) (by omega) _ _ (World.alloc_heap_new w (.cells #[.int .u8 (65 + ((m % 26 : Nat) : Int))] 5))
      have hR26 : m % 26 < 26 := by omega
      have hdg := digits_any (m / 26) (by omega)
      have hQl : m / 26 < 100000 := by omega
      by_cases h26 : m < 26
      · have HS := Lib.hid (vn_small h26)
        have d2 : decide ((m : Int) ≥ 26) = false := by simp; omega
        generalize UInt8.ofNat (65 + m % 26) = b at *
        generalize m % 26 = R at *
        have hw2 : IntKind.wrap .i64 (65 + (R : Int)) = 65 + (R : Int) := by simp [IntKind.wrap, IntKind.bits, IntKind.signed]; omega
        have hw3 : IntKind.wrap .u8 (65 + (R : Int)) = 65 + (R : Int) := by simp [IntKind.wrap, IntKind.bits, IntKind.signed]; omega
        clear h1 hdg hq
        go_enter Tryz.func37, Tryz.ntmps37
        go_wp2_with fail
        go_ret2
        exact ⟨by rw [HV.out.1, HV.out.2, HS.out]; rfl, below_a1 (Nat.le_refl _) _⟩
      · have HS := Lib.hid (vn_large h26)
        have d2 : decide ((m : Int) ≥ 26) = true := by simp; omega
        have hSz : (⟨(Lib.decDigits (m / 26)).toArray⟩ : ByteArray).size ≤ 20 := by
          have h2 := Lib.nDigits_le20 (m / 26) (by omega)
          rw [← Lib.decDigits_length] at h2
          exact h2
        generalize UInt8.ofNat (65 + m % 26) = b at *
        generalize (⟨(Lib.decDigits (m / 26)).toArray⟩ : ByteArray) = S at *
        have hadd : ∀ t, binOp .add t (.string ⟨#[b]⟩) (.string S) = pure (.string (⟨#[b]⟩ ++ S)) := fun t => add_str t ⟨#[b]⟩ S (by have : (⟨#[b]⟩ : ByteArray).size = 1 := rfl; omega)
        generalize m % 26 = R at *
        generalize m / 26 = Q at *
        have hw2 : IntKind.wrap .i64 (65 + (R : Int)) = 65 + (R : Int) := by simp [IntKind.wrap, IntKind.bits, IntKind.signed]; omega
        have hw3 : IntKind.wrap .u8 (65 + (R : Int)) = 65 + (R : Int) := by simp [IntKind.wrap, IntKind.bits, IntKind.signed]; omega
        have hw1 : IntKind.wrap .i64 (Q : Int) = Q := by simp [IntKind.wrap, IntKind.bits, IntKind.signed]; omega
        have HD := Lib.hid hdg
        clear h1 hdg hSz h26
        go_enter Tryz.func37, Tryz.ntmps37
        go_wp2_with fail
        refine (HD.out _).mono ?_
        rintro e W4 ⟨rfl, hB⟩
        have hL := Lib.hid ((below_a1 (Nat.le_refl w.heap.size) (.cells #[.int .u8 (65 + (R : Int))] 5)).trans (hB.mono (by simp)))
        clear hB
        go_wp2_with fail
        go_ret2
        exact ⟨by rw [HV.out.1, HV.out.2, HS.out]; rfl, hL.out⟩
theorem grow_low (w : World) (k : Nat) (os : Array Obj) : Below w.heap.size w (Sort.grow (w.drewN k) os) := ⟨rfl, rfl, rfl, by simp [World.drewN], fun i hi => Sort.heap_grow_old (w.drewN k) os hi⟩
set_option maxRecDepth 100000 in
set_option maxHeartbeats 1000000 in
theorem varName_any (m : Nat) (hm : m < 100000) (w : World) (htab : Lib.TabBelow Tryz.prog w.heap.size w "internal/strconv.uint64pow10" .u64 Lib.pow10Tab) : Calls Tryz.prog 75 #[.int .i64 m] w fun e w' => e = .returned (.string (vnS m)) ∧ Below w.heap.size w w' := by
  have hr : Int.tmod (m : Int) 26 = ((m % 26 : Nat) : Int) := by rw [Int.tmod_eq_emod_of_nonneg (by omega)]; omega
  have hq : Int.tdiv (m : Int) 26 = ((m / 26 : Nat) : Int) := by rw [Int.tdiv_eq_ediv_of_nonneg (by omega)]; omega
  have hcv := letter_at (m % 26) (by omega) _ _ (World.alloc_heap_new w (.cells #[.int .u8 (65 + ((m % 26 : Nat) : Int))] 5))
  have hR26 : m % 26 < 26 := by omega
  by_cases h26 : m < 26
  · have HS := Lib.hid (vn_small h26)
    have h26' : (m : Int) < 26 := by omega
    generalize UInt8.ofNat (65 + m % 26) = b at *
    generalize m % 26 = R at *
    have hw2 : IntKind.wrap .i64 (65 + (R : Int)) = 65 + (R : Int) := by simp [IntKind.wrap, IntKind.bits, IntKind.signed]; omega
    have hw3 : IntKind.wrap .u8 (65 + (R : Int)) = 65 + (R : Int) := by simp [IntKind.wrap, IntKind.bits, IntKind.signed]; omega
    clear hq htab h26
    go_enter Tryz.func75, Tryz.ntmps75
    go_wp2_with fail
    go_ret
    exact ⟨by rw [HS.out]; rfl, below_a1 (Nat.le_refl _) _⟩
  · have HS := Lib.hid (vn_large h26)
    have h26' : ¬ (m : Int) < 26 := by omega
    have hSz : (⟨(Lib.decDigits (m / 26)).toArray⟩ : ByteArray).size ≤ 20 := by
      have h2 := Lib.nDigits_le20 (m / 26) (by omega)
      rw [← Lib.decDigits_length] at h2
      exact h2
    have hB1 := below_a1 (Nat.le_refl w.heap.size) (.cells #[.int .u8 (65 + ((m % 26 : Nat) : Int))] 5)
    have hit := Tryz.strconv_Itoa ((m / 26 : Nat) : Int) (by omega) (by omega) _ (htab _ hB1)
    rw [Lib.itoa_nonneg] at hit
    have hQl : m / 26 < 100000 := by omega
    generalize UInt8.ofNat (65 + m % 26) = b at *
    generalize (⟨(Lib.decDigits (m / 26)).toArray⟩ : ByteArray) = S at *
    have hadd : ∀ t, binOp .add t (.string ⟨#[b]⟩) (.string S) = pure (.string (⟨#[b]⟩ ++ S)) := fun t => add_str t ⟨#[b]⟩ S (by have : (⟨#[b]⟩ : ByteArray).size = 1 := rfl; omega)
    generalize m % 26 = R at *
    generalize m / 26 = Q at *
    have hw2 : IntKind.wrap .i64 (65 + (R : Int)) = 65 + (R : Int) := by simp [IntKind.wrap, IntKind.bits, IntKind.signed]; omega
    have hw3 : IntKind.wrap .u8 (65 + (R : Int)) = 65 + (R : Int) := by simp [IntKind.wrap, IntKind.bits, IntKind.signed]; omega
    have hw1 : IntKind.wrap .i64 (Q : Int) = Q := by simp [IntKind.wrap, IntKind.bits, IntKind.signed]; omega
    have HD := Lib.hid hit
    have HB1 := Lib.hid hB1
    clear hit hB1 hSz h26 htab
    go_enter Tryz.func75, Tryz.ntmps75
    go_wp2_with fail
    refine HD.out.mono ?_
    rintro e W4 ⟨rfl, kk, os, rfl⟩
    have hL := Lib.hid (HB1.out.trans ((grow_low _ kk os).mono (by simp)))
    generalize Sort.grow _ os = W5 at *
    go_wp2_with fail
    go_ret
    exact ⟨by rw [HS.out]; rfl, hL.out⟩
set_option maxRecDepth 100000 in
set_option maxHeartbeats 1000000 in
theorem readVarName_any (n : Int) (w : World) (htab : Lib.TabBelow Tryz.prog w.heap.size w "internal/strconv.uint64pow10" .u64 Lib.pow10Tab) : Calls Tryz.prog 36 #[.int .i64 n] w (VnQ (vnV n) (vnE n) w) := by
  by_cases h0 : n < 0
  · have HV := Lib.hid (vn_no (.inl h0))
    clear htab
    go_enter Tryz.func36, Tryz.ntmps36
    go_wp2_with fail
    go_ret2
    exact ⟨by rw [HV.out.1, HV.out.2]; rfl, Below.refl _ _⟩
  · by_cases h1 : 100000 ≤ n
    · have HV := Lib.hid (vn_no (.inr h1))
      have d1 : decide (n ≥ 100000) = true := by simpa using h1
      clear h1 htab
      go_enter Tryz.func36, Tryz.ntmps36
      go_wp2_with fail
      go_ret2
      exact ⟨by rw [HV.out.1, HV.out.2]; rfl, Below.refl _ _⟩
    · obtain ⟨m, rfl⟩ : ∃ m : Nat, n = m := ⟨n.toNat, by omega⟩
      have hm : m < 100000 := by omega
      have HV := Lib.hid (vn_yes hm)
      have d1 : decide ((m : Int) ≥ 100000) = false := by simp; omega
      have HD := Lib.hid (varName_any m hm w htab)
      clear h1 htab
      go_enter Tryz.func36, Tryz.ntmps36
      go_wp2_with fail
      refine HD.out.mono ?_
      rintro e W4 ⟨rfl, hB⟩
      have hL := Lib.hid hB
      clear hB
      go_wp2_with fail
      go_ret2
      exact ⟨by rw [HV.out.1, HV.out.2]; rfl, hL.out⟩
end Go.Proofs.YthfciekhmbfmfaaGreatDoor

/- The writer's put. -/
namespace Go.Proofs.YthfciekhmbfmfaaGreatDoor
open Go.RowKit Go Go.Maps

/-- What a step of the writer leaves as it was: whatever is neither its box nor a row of bytes. -/
def WrTo (B : Nat) (W W' : World) : Prop := W.heap.size ≤ W'.heap.size ∧ ∀ k, k < W.heap.size → k ≠ B → (∀ (c : Array Value) (fr : Nat × Nat), W.heap[k]? ≠ some (Obj.cells c 5 fr)) → W'.heap[k]? = W.heap[k]?
theorem WrTo.refl (B : Nat) (W : World) : WrTo B W W := ⟨Nat.le_refl _, fun _ _ _ _ => rfl⟩
theorem WrTo.trans {B : Nat} {a b c : World} (h : WrTo B a b) (k : WrTo B b c) : WrTo B a c :=
  ⟨Nat.le_trans h.1 k.1, fun i hi h1 h2 => by
    have h3 := h.2 i hi h1 h2
    exact (k.2 i (Nat.lt_of_lt_of_le hi h.1) h1 (fun c fr e => h2 c fr (h3 ▸ e))).trans h3⟩
theorem WrTo.up {B : Nat} {W W' : World} (h : Below W.heap.size W W') : WrTo B W W' := ⟨h.size, fun k hk _ _ => h.block k hk⟩
section
variable {w : World} {B b1 b2 : Nat} {fv ov : Value} {plain : Bool} {st : WS} {W : World}
theorem WrSt.up {W' : World} (h : WrSt w B b1 b2 fv plain st ov W) (hB : Below W.heap.size W W') : WrSt w B b1 b2 fv plain st ov W' := by
  obtain ⟨o1, o2, o3, ⟨m1, o4⟩, m2, o5⟩ := h.ops
  exact ⟨Box.keep hB h.box, own_block h.out (fun b hb => hB.block b (by obtain ⟨_, c, fr, h3⟩ := own_typed h.out hb; exact (Array.getElem?_eq_some_iff.1 h3).1)), ⟨o1, o2, o3, ⟨m1, o4.block (hB.block _ o4.lt)⟩, m2, o5.block (hB.block _ o5.lt)⟩, h.below.trans (hB.mono h.below.size), h.hB⟩
/-- Bytes were appended, and the row stored. -/
theorem WrSt.pushed {X W3 : World} {out' : List UInt8} {ov' : Value} (h : WrSt w B b1 b2 fv plain st ov W) (hX : Below W.heap.size W X) (hg : X.grownBy W3 ov.ownBlock) (hown : W3.ownsRow w.heap.size 5 1 ov' out'.length (byts out')) :
    WrSt w B b1 b2 fv plain ⟨out', st.beh⟩ ov' (W3.setCell ⟨B, 0, none⟩ ov') ∧ WrTo B W (W3.setCell ⟨B, 0, none⟩ ov') := by
  have hk : ∀ k, k < W.heap.size → (∀ (c : Array Value) (fr : Nat × Nat), W.heap[k]? ≠ some (Obj.cells c 5 fr)) → W3.heap[k]? = W.heap[k]? := fun k hk h1 =>
    (hg.block k (Nat.lt_of_lt_of_le hk hX.size) (fun e => by
      obtain ⟨_, c, fr, h3⟩ := own_typed h.out e.symm
      exact h1 c fr h3)).trans (hX.block k hk)
  have hBx : ∀ (c : Array Value) (fr : Nat × Nat), W.heap[B]? ≠ some (Obj.cells c 5 fr) := fun c fr e => by
    have h3 := h.box
    rw [show W.heap[B]? = some _ from h3] at e
    cases e
  have hb3 : Box W3 B _ _ := (hk B h.box.lt hBx).trans h.box
  have hmx : ∀ {b : Nat}, (∃ es clock, W.heap[b]? = some (Obj.map es clock)) → b ≠ B ∧ ∀ (c : Array Value) (fr : Nat × Nat), W.heap[b]? ≠ some (Obj.cells c 5 fr) := fun {b} ⟨es, cl, hm⟩ => by
    refine ⟨fun e => ?_, fun c fr e => ?_⟩
    · subst e
      have h3 := h.box
      rw [show W.heap[b]? = some _ from h3] at hm
      cases hm
    · rw [hm] at e
      cases e
  obtain ⟨o1, o2, o3, ⟨m1, o4⟩, m2, o5⟩ := h.ops
  have hF : ∀ k, k < W.heap.size → k ≠ B → (∀ (c : Array Value) (fr : Nat × Nat), W.heap[k]? ≠ some (Obj.cells c 5 fr)) → (W3.setCell ⟨B, 0, none⟩ ov').heap[k]? = W.heap[k]? := fun k h1 h2 h3 => (Below.heap_setCell _ _ _ _ h2).trans (hk k h1 h3)
  have hbw := h.below.trans (hX.mono h.below.size)
  have hb4 := hbw.trans (gr_low hg hbw.size (fun g e => (own_typed h.out e).1))
  refine ⟨⟨hb3.set 0 ov', own_block hown fun b hb => ?_, ⟨o1, o2, o3, ⟨m1, o4.block (hF _ o4.lt (hmx o4.map).1 (hmx o4.map).2)⟩, m2, o5.block (hF _ o5.lt (hmx o5.map).1 (hmx o5.map).2)⟩, hb4.trans (gr_low (gr_set B 0 W3 _) hb4.size (fun g e => by cases e; exact h.hB)), h.hB⟩, ⟨by simp; exact Nat.le_trans hX.size hg.size, hF⟩⟩
  refine Below.heap_setCell _ _ _ _ (fun e => ?_)
  obtain ⟨_, c, fr, h3⟩ := own_typed hown hb
  rw [show b = B from e, show W3.heap[B]? = some _ from hb3] at h3
  cases h3
/-- Whether a prefix operator stands last is noted. -/
theorem WrSt.setBeh (h : WrSt w B b1 b2 fv plain st ov W) (b : Bool) : WrSt w B b1 b2 fv plain ⟨st.out, b⟩ ov (W.setCell ⟨B, 5, none⟩ (.bool b)) ∧ WrTo B W (W.setCell ⟨B, 5, none⟩ (.bool b)) := by
  obtain ⟨o1, o2, o3, ⟨m1, o4⟩, m2, o5⟩ := h.ops
  have hF : ∀ k, k ≠ B → (W.setCell ⟨B, 5, none⟩ (.bool b)).heap[k]? = W.heap[k]? := fun k hk => Below.heap_setCell _ _ _ _ hk
  refine ⟨⟨h.box.set 5 _, own_block h.out fun b hb => hF b (fun e => ?_), ⟨o1, o2, o3, ⟨m1, o4.block (hF _ (Ne.symm (o4.not_box h.box)))⟩, m2, o5.block (hF _ (Ne.symm (o5.not_box h.box)))⟩, h.below.trans (gr_low (gr_set B 5 W _) h.below.size (fun g e => by cases e; exact h.hB)), h.hB⟩, ⟨by simp, fun k _ h1 _ => hF k h1⟩⟩
  obtain ⟨_, c, fr, h3⟩ := own_typed h.out hb
  rw [e, show W.heap[B]? = some _ from h.box] at h3
  cases h3
/-- Another box is written. -/
theorem WrSt.far (h : WrSt w B b1 b2 fv plain st ov W) {g : Nat} {cs : Array Value} {t : TypeId} (hg : Box W g cs t) (h1 : g ≠ B) (h2 : t ≠ 5) (hw : w.heap.size ≤ g) (i : Nat) (u : Value) : WrSt w B b1 b2 fv plain st ov (W.setCell ⟨g, i, none⟩ u) := by
  obtain ⟨o1, o2, o3, ⟨m1, o4⟩, m2, o5⟩ := h.ops
  have hF : ∀ k, k ≠ g → (W.setCell ⟨g, i, none⟩ u).heap[k]? = W.heap[k]? := fun k hk => Below.heap_setCell _ _ _ _ hk
  refine ⟨(hF B (Ne.symm h1)).trans h.box, own_block h.out fun b hb => hF b (fun e => ?_), ⟨o1, o2, o3, ⟨m1, o4.block (hF _ (Ne.symm (o4.not_box hg)))⟩, m2, o5.block (hF _ (Ne.symm (o5.not_box hg)))⟩, h.below.trans (gr_low (gr_set g i W _) h.below.size (fun k e => by cases e; exact hw)), h.hB⟩
  obtain ⟨_, c, fr, h3⟩ := own_typed h.out hb
  rw [e, show W.heap[g]? = some _ from hg] at h3
  cases h3
  exact h2 rfl
theorem WrTo.setFar {W W' : World} (h : WrTo B W W') {g : Nat} (hg : W.heap.size ≤ g) (i : Nat) (u : Value) : WrTo B W (W'.setCell ⟨g, i, none⟩ u) :=
  ⟨by simp; exact h.1, fun k hk h1 h2 => (Below.heap_setCell _ _ _ _ (by show k ≠ g; omega)).trans (h.2 k hk h1 h2)⟩
/-- What a step leaves: a box of another type. -/
theorem WrTo.box {W W' : World} (h : WrTo B W W') {g : Nat} {cs : Array Value} {t : TypeId} (hg : Box W g cs t) (h1 : g ≠ B) (h2 : t ≠ 5) : Box W' g cs t :=
  (h.2 g hg.lt h1 (fun c fr e => by rw [show W.heap[g]? = some _ from hg] at e; cases e; exact h2 rfl)).trans hg
/-- What a step of the writer hands back. -/
def WrQ (w : World) (B b1 b2 : Nat) (fv : Value) (plain : Bool) (st' : WS) (W : World) (e : Ending) (W' : World) : Prop := e = .returned (.tuple #[]) ∧ ∃ ov', WrSt w B b1 b2 fv plain st' ov' W' ∧ WrTo B W W'
/-- The writer's box is not the row of bytes. -/
theorem WrSt.box_out (h : WrSt w B b1 b2 fv plain st ov W) : some B ≠ ov.ownBlock := fun e => by
  obtain ⟨_, c, fr, h3⟩ := own_typed h.out e.symm
  rw [show W.heap[B]? = some _ from h.box] at h3
  cases h3
theorem putF_true {s : List UInt8} (h : blankF st (s.headD 0) = true) : putF st s = ⟨(st.out ++ [32]) ++ s, false⟩ := by rw [putF, if_pos h]
theorem putF_false {s : List UInt8} (h : blankF st (s.headD 0) = false) : putF st s = ⟨st.out ++ s, false⟩ := by rw [putF, if_neg (by rw [h]; exact Bool.false_ne_true)]
theorem headD_get (s : ByteArray) (hs : 0 < s.size) : s.data.toList.headD 0 = s[0] := by
  have h1 : s.data.toList = s[0] :: s.data.toList.tail := by
    have h2 : 0 < s.data.toList.length := by rw [Array.length_toList]; exact hs
    cases hd : s.data.toList with
    | nil => rw [hd] at h2; simp at h2
    | cons a r =>
      have : s[0] = s.data.toList[0] := by rw [Array.getElem_toList]; rfl
      rw [this]
      simp [hd]
  rw [h1]
  rfl
set_option maxRecDepth 100000 in
set_option maxHeartbeats 16000000 in
theorem put_any (h : WrSt w B b1 b2 fv plain st ov W) (s : ByteArray) (hs : 0 < s.size) (hl : st.out.length + s.size ≤ 900000000) :
    Calls Tryz.prog 85 #[.pointer (some ⟨B, 0, none⟩), .string s] W (WrQ w B b1 b2 fv plain (putF st s.data.toList) W) := by
  obtain ⟨i0, hi, hz0, hz1, hz2⟩ := info_parts infoU8
  have hdl : s.data.toList.length = s.size := by rw [Array.length_toList]; rfl
  have HN := Lib.hid (needsBlank_any h (by omega) s[0])
  have H0 := Lib.hid h
  have l0 := h.box.lt
  have hhd := headD_get s hs
  clear h
  cases hb : blankF st s[0] with
  | true =>
    have HP : Hid (putF st s.data.toList = ⟨(st.out ++ [32]) ++ s.data.toList, false⟩) := putF_true (by rw [hhd]; exact hb)
    have HBL := Lib.hid hb
    clear hhd hb
    go_enter Tryz.func85, Tryz.ntmps85
    go_wp2_with fail
    refine (HN.out).mono ?_
    rintro e w1 ⟨rfl, hB1⟩
    rw [HBL.out]
    have h1 := H0.out.up hB1
    have c0 := h1.box.cell 0
    have l1 := h1.box.lt
    simp only [List.getElem?_toArray, List.getElem?_cons_succ, List.getElem?_cons_zero] at c0
    have H1 := Lib.hid (And.intro h1 hB1)
    have hsz : w.heap.size ≤ w1.heap.size := h1.below.size
    have n0 := World.new_ne w1 _ c0
    clear h1 hB1
    go_wp2_with (at_builtin; refine wpList_append_own_at _ rfl _ _ 62 rfl w.heap.size 5 i0 (.int .u8 0) 1 1 Tryz.underlying62 hi hz0 hz1 hz2 rfl (by decide) _ _ _ rfl (World.ownsRow.alloc H1.out.1.out _) ⟨w1.heap.size, 0, none⟩ 1 1 [.int .u8 32] rfl rfl (cell_one_new _ _ _) (fun u hu => by simp only [List.mem_cons, List.not_mem_nil, or_false] at hu; rcases hu with rfl <;> rfl) (by unfold maxLen; omega) (by omega) (by simp; omega) ?_)
    intro v1 w2 hown1 hgrow1 _ _
    have hne : some B ≠ ov.ownBlock := H1.out.1.box_out
    have hA : Below w1.heap.size w1 (w1.alloc (.cells #[.int .u8 32] 5)) := below_a1 (Nat.le_refl _) _
    have hb2 : Box w2 B _ _ := (hgrow1.block B (by simp; omega) hne).trans (H1.out.1.box.alloc _)
    have e1 := hb2.cell 0
    have z1 := hb2.frozen 0
    have l2 := hb2.lt
    simp only [List.getElem?_toArray, List.getElem?_cons_succ, List.getElem?_cons_zero] at e1
    have hown2 : w2.ownsRow w.heap.size 5 1 v1 (st.out ++ [32]).length (byts (st.out ++ [32])) := by
      rw [byts_append, List.length_append]
      exact hown1
    obtain ⟨h3, t3⟩ := H1.out.1.pushed (out' := st.out ++ [32]) hA hgrow1 hown2
    have T3 := Lib.hid ((WrTo.up (B := B) H1.out.2).trans t3)
    have hAl : (st.out ++ [32]).length = st.out.length + 1 := by simp
    obtain ⟨A, hAe⟩ : ∃ A, st.out ++ [32] = A := ⟨_, rfl⟩
    rw [hAe] at hown2 h3 hAl
    have HP : Hid (putF st s.data.toList = ⟨A ++ s.data.toList, false⟩) := by rw [Hid, HP.out, hAe]
    obtain ⟨g1, cap1, rfl, _, _⟩ := hown2.form (by omega)
    have H3 := Lib.hid h3
    have hA1 : A.length + s.size ≤ 900000001 := by omega
    clear hown1 hgrow1 hown2 hb2 hne hA t3 h3 hAe hAl
    go_wp2_with (at_builtin; refine Lib.wpList_append_own_string _ rfl _ _ 62 9 rfl w.heap.size 5 i0 Tryz.underlying62 Tryz.underlying9 hi hz0 hz1 hz2 _ _ _ rfl (show World.ownsRow _ w.heap.size 5 1 _ A.length (byts A) from H3.out.out) s rfl (by unfold maxLen; omega) (by omega) (H3.out.below.size) ?_)
    intro v2 w4 hown4 hgrow4 _
    have hb4 : Box w4 B _ _ := (hgrow4.block B (H3.out.box.lt) H3.out.box_out).trans H3.out.box
    have e4 := hb4.cell 0
    have e5 := hb4.cell 5
    have z4 := hb4.frozen 0
    have z5 := hb4.frozen 5
    have l4 := hb4.lt
    simp only [List.setIfInBounds_toArray, List.set_cons_zero, List.getElem?_toArray, List.getElem?_cons_succ, List.getElem?_cons_zero] at e4 e5
    have hown5 : w4.ownsRow w.heap.size 5 1 v2 (A ++ s.data.toList).length (byts (A ++ s.data.toList)) := by
      rw [byts_append, List.length_append, hdl]
      exact hown4
    have hCl : (A ++ s.data.toList).length = A.length + s.size := by rw [List.length_append, hdl]
    obtain ⟨C, hCe⟩ : ∃ C, A ++ s.data.toList = C := ⟨_, rfl⟩
    rw [hCe] at hown5 hCl
    have HP : Hid (putF st s.data.toList = ⟨C, false⟩) := by rw [Hid, HP.out, hCe]
    obtain ⟨g2, cap2, rfl, _, _⟩ := hown5.form (by omega)
    obtain ⟨h6, t6⟩ := H3.out.pushed (out' := C) (Below.refl _ _) hgrow4 hown5
    obtain ⟨h7, t7⟩ := h6.setBeh false
    have H7 := Lib.hid (And.intro h7 ((T3.out.trans t6).trans t7))
    clear hown4 hgrow4 hown5 hb4 h6 t6 h7 t7 hCe hCl
    go_wp2_with fail
    first | go_end0 | go_ret
    exact ⟨rfl, _, by rw [HP.out]; exact H7.out.1, H7.out.2⟩
  | false =>
    have HP : Hid (putF st s.data.toList = ⟨st.out ++ s.data.toList, false⟩) := putF_false (by rw [hhd]; exact hb)
    have HBL := Lib.hid hb
    clear hhd hb
    go_enter Tryz.func85, Tryz.ntmps85
    go_wp2_with fail
    refine (HN.out).mono ?_
    rintro e w1 ⟨rfl, hB1⟩
    rw [HBL.out]
    have h1 := H0.out.up hB1
    have c0 := h1.box.cell 0
    have l1 := h1.box.lt
    simp only [List.getElem?_toArray, List.getElem?_cons_succ, List.getElem?_cons_zero] at c0
    have H1 := Lib.hid h1
    have T1 := Lib.hid (WrTo.up (B := B) hB1)
    clear h1 hB1
    go_wp2_with (at_builtin; refine Lib.wpList_append_own_string _ rfl _ _ 62 9 rfl w.heap.size 5 i0 Tryz.underlying62 Tryz.underlying9 hi hz0 hz1 hz2 _ _ _ rfl H1.out.out s rfl (by unfold maxLen; omega) (by omega) (H1.out.below.size) ?_)
    intro v2 w4 hown4 hgrow4 _
    have hb4 : Box w4 B _ _ := (hgrow4.block B (H1.out.box.lt) H1.out.box_out).trans H1.out.box
    have e4 := hb4.cell 0
    have e5 := hb4.cell 5
    have z4 := hb4.frozen 0
    have z5 := hb4.frozen 5
    have l4 := hb4.lt
    simp only [List.setIfInBounds_toArray, List.set_cons_zero, List.getElem?_toArray, List.getElem?_cons_succ, List.getElem?_cons_zero] at e4 e5
    have hown5 : w4.ownsRow w.heap.size 5 1 v2 (st.out ++ s.data.toList).length (byts (st.out ++ s.data.toList)) := by
      rw [byts_append, List.length_append, hdl]
      exact hown4
    have hCl : (st.out ++ s.data.toList).length = st.out.length + s.size := by rw [List.length_append, hdl]
    obtain ⟨C, hCe⟩ : ∃ C, st.out ++ s.data.toList = C := ⟨_, rfl⟩
    rw [hCe] at hown5 hCl
    have HP : Hid (putF st s.data.toList = ⟨C, false⟩) := by rw [Hid, HP.out, hCe]
    obtain ⟨g2, cap2, rfl, _, _⟩ := hown5.form (by omega)
    obtain ⟨h6, t6⟩ := H1.out.pushed (out' := C) (Below.refl _ _) hgrow4 hown5
    obtain ⟨h7, t7⟩ := h6.setBeh false
    have H7 := Lib.hid (And.intro h7 ((T1.out.trans t6).trans t7))
    clear hown4 hgrow4 hown5 hb4 h6 t6 h7 t7 hCe hCl
    go_wp2_with fail
    first | go_end0 | go_ret
    exact ⟨rfl, _, by rw [HP.out]; exact H7.out.1, H7.out.2⟩
end
end Go.Proofs.YthfciekhmbfmfaaGreatDoor

/- How atoms are written; list cells; what was written, handed back. -/
namespace Go.Proofs.YthfciekhmbfmfaaGreatDoor
open Go.RowKit Go Go.Maps

/-- What the writer wants of the world in which it is made. -/
structure WrC (w : World) (mm : Int) : Prop where
  mx : w.cell? ⟨1, 0, none⟩ = some (.int .i64 mm)
  ml : 1 < w.heap.size
  tab : Lib.TabBelow Tryz.prog w.heap.size w "internal/strconv.uint64pow10" .u64 Lib.pow10Tab
theorem WrC.mxAt {w W : World} {mm : Int} (h : WrC w mm) (hB : Below w.heap.size w W) : W.cell? ⟨1, 0, none⟩ = some (.int .i64 mm) := by
  rw [hB.cell (p := ⟨1, 0, none⟩) h.ml]; exact h.mx
section
variable {w : World} {B b1 b2 : Nat} {fv ov : Value} {plain : Bool} {st : WS} {W : World} {mm : Int}
set_option maxRecDepth 100000 in
set_option maxHeartbeats 4000000 in
theorem atom_any (h : WrSt w B b1 b2 fv plain st ov W) (hC : WrC w mm) (s : ByteArray) (hs : s.size ≤ 1000000) :
    Calls Tryz.prog 88 #[.pointer (some ⟨B, 0, none⟩), .string s] W fun e W' => e = .returned (.string ⟨(atomF s.data.toList).toArray⟩) ∧ Below W.heap.size W W' := by
  have hmx := hC.mxAt h.below
  have hml : 1 < W.heap.size := Nat.lt_of_lt_of_le hC.ml h.below.size
  have HQ := Lib.hid (fun w => quote_any s hs w)
  have HH := Lib.hid (opHas_any s (by unfold maxLen; omega) W h.ops)
  have c1 := h.box.cell 1
  have c2 := h.box.cell 2
  have l0 := h.box.lt
  simp only [List.getElem?_toArray, List.getElem?_cons_succ, List.getElem?_cons_zero] at c1 c2
  have HN := Lib.hid (fun W' (hB : Below W.heap.size W W') => nameText_any s W' hs mm (by rw [hB.cell (p := ⟨1, 0, none⟩) hml]; exact hmx) (Nat.lt_of_lt_of_le hml hB.size))
  clear h hmx hml
  by_cases hnil : s.data.toList = [91, 93]
  · have HP : Hid ((⟨(atomF s.data.toList).toArray⟩ : ByteArray) = s) := by rw [Hid, atomF, if_pos hnil]
    have hse : (s.toList == [91, 93]) = true := by rw [bytes_toList]; simpa using hnil
    clear hnil
    go_enter Tryz.func88, Tryz.ntmps88
    go_wp2_with fail
    go_ret
    exact ⟨by rw [HP.out]; rfl, Below.refl _ _⟩
  · have hse : (s.toList == [91, 93]) = false := by rw [bytes_toList]; simpa using hnil
    cases hop : isOp s.data.toList with
    | true =>
      have HP : Hid (atomF s.data.toList = qtL s.data.toList ++ [39]) := by rw [Hid, atomF, if_neg hnil, if_pos hop]
      have HO := Lib.hid hop
      clear hnil hop
      go_enter Tryz.func88, Tryz.ntmps88
      go_wp2_with fail
      refine (HH.out).mono ?_
      rintro e w1 ⟨rfl, hB1⟩
      rw [HO.out]
      have H1 := Lib.hid hB1
      clear hB1
      go_wp2_with fail
      refine (HQ.out _).mono ?_
      rintro e w2 ⟨rfl, hB2⟩
      have H2 := Lib.hid (H1.out.trans (hB2.mono H1.out.size))
      clear hB2
      go_wp2_with fail
      go_ret
      exact ⟨by rw [HP.out]; rfl, H2.out⟩
    | false =>
      have HP : Hid (atomF s.data.toList = nameF s.data.toList) := by rw [Hid, atomF, if_neg hnil, if_neg (by rw [hop]; exact Bool.false_ne_true)]
      have HO := Lib.hid hop
      clear hnil hop
      go_enter Tryz.func88, Tryz.ntmps88
      go_wp2_with fail
      refine (HH.out).mono ?_
      rintro e w1 ⟨rfl, hB1⟩
      rw [HO.out]
      have H1 := Lib.hid hB1
      clear hB1
      go_wp2_with fail
      refine (HN.out _ H1.out).mono ?_
      rintro e w2 ⟨rfl, hB2⟩
      have H2 := Lib.hid (H1.out.trans (hB2.mono H1.out.size))
      clear hB2
      go_wp2_with fail
      go_ret
      exact ⟨by rw [HP.out]; rfl, H2.out⟩
set_option maxRecDepth 100000 in
set_option maxHeartbeats 4000000 in
theorem readIsCell_any (T : Tr) (v : Value) (W : World) (hT : IsT W.heap.size W T v) : Calls Tryz.prog 176 #[v] W fun e W' => e = .returned (.bool (cellB T)) ∧ Below W.heap.size W W' := by
  cases T with
  | node k n s l =>
    obtain ⟨a, c, rfl, _, _, _, hlc, hcm, _⟩ := hT.open
    obtain ⟨m, hm⟩ : ∃ m, l.length = m := ⟨_, rfl⟩
    have HP : Hid (cellB (.node k n s l) = (decide (k = 5) && decide (s.data.toList = [46]) && decide (m = 2))) := by rw [Hid, cellB, hm]
    rw [hm]
    have hA := Lib.hid (below_a1 (Nat.le_refl W.heap.size) (.cells #[.int .i64 k, .int .i64 n, .string s, .slice a m c] 31))
    clear hT hlc hcm hm
    by_cases hk : k = 5
    · by_cases hs : s.data.toList = [46]
      · have hse : (s.toList == [46]) = true := by rw [bytes_toList]; simpa using hs
        by_cases h2 : m = 2
        · have HF : Hid (cellB (.node k n s l) = true) := by rw [Hid, HP.out]; simp [hk, hs, h2]
          clear HP hs
          subst hk h2
          go_enter Tryz.func176, Tryz.ntmps176
          go_wp2_with fail
          go_ret
          exact ⟨retB HF.out, hA.out⟩
        · have HF : Hid (cellB (.node k n s l) = false) := by rw [Hid, HP.out]; simp [h2]
          have he : ((m : Int) == 2) = false := by simp only [beq_eq_false_iff_ne]; omega
          clear HP hs h2
          subst hk
          go_enter Tryz.func176, Tryz.ntmps176
          go_wp2_with fail
          go_ret
          exact ⟨retB HF.out, hA.out⟩
      · have HF : Hid (cellB (.node k n s l) = false) := by rw [Hid, HP.out]; simp [hs]
        have hse : (s.toList == [46]) = false := by rw [bytes_toList]; simpa using hs
        clear HP hs
        subst hk
        go_enter Tryz.func176, Tryz.ntmps176
        go_wp2_with fail
        go_ret
        exact ⟨retB HF.out, hA.out⟩
    · have HF : Hid (cellB (.node k n s l) = false) := by rw [Hid, HP.out]; simp [hk]
      have hke : (k == 5) = false := by simpa using hk
      clear HP hk
      go_enter Tryz.func176, Tryz.ntmps176
      go_wp2_with fail
      go_ret
      exact ⟨retB HF.out, hA.out⟩
/-- What was written, if it is not too long. -/
def resF (l : List UInt8) : Value := if l.length > 20000 then .tuple #[.string ⟨#[]⟩, .int .i64 2] else .tuple #[.string ⟨l.toArray⟩, .int .i64 0]
set_option maxRecDepth 100000 in
set_option maxHeartbeats 4000000 in
theorem result_any (h : WrSt w B b1 b2 fv plain st ov W) (hl : st.out.length ≤ 1000000000) : Calls Tryz.prog 86 #[.pointer (some ⟨B, 0, none⟩)] W fun e W' => e = .returned (resF st.out) ∧ W' = W := by
  have hcv := BytR.str (w := w) (l := st.out) (v := ov) (W := W) ⟨h.out, h.below⟩
  obtain ⟨a, c, rfl⟩ := h.form
  have c0 := h.box.cell 0
  have l0 := h.box.lt
  simp only [List.getElem?_toArray, List.getElem?_cons_succ, List.getElem?_cons_zero] at c0
  clear h
  by_cases hg : st.out.length > 20000
  · have HP : Hid (resF st.out = .tuple #[.string ⟨#[]⟩, .int .i64 2]) := by rw [Hid, resF, if_pos hg]
    have hg2 : (st.out.length : Int) > 20000 := by omega
    clear hg hl hcv
    go_enter Tryz.func86, Tryz.ntmps86
    go_wp2_with fail
    go_ret2
    exact ⟨by rw [HP.out]; rfl, rfl⟩
  · have HP : Hid (resF st.out = .tuple #[.string ⟨st.out.toArray⟩, .int .i64 0]) := by rw [Hid, resF, if_neg hg]
    have hg2 : ¬ (st.out.length : Int) > 20000 := by omega
    clear hg hl
    go_enter Tryz.func86, Tryz.ntmps86
    go_wp2_with fail
    go_ret2
    exact ⟨by rw [HP.out]; rfl, rfl⟩
end
end Go.Proofs.YthfciekhmbfmfaaGreatDoor
