/- The lexer goes behind blanks and comments. -/
import Derived.Test.YthfciekhmbfmfaaGreatDoorShelf
import Derived.Test.YthfciekhmbfmfaaGreatDoorLexF
import Derived.Test.YthfciekhmbfmfaaGreatDoorCutq
import Derived.Test.YthfciekhmbfmfaaGreatDoorNamed
namespace Go.Proofs.YthfciekhmbfmfaaGreatDoor
open Go.RowKit Go

/-- What is behind blanks and comments; or a comment without an end is told. -/
def PassQ (w : World) (B : Nat) (s : ByteArray) (xs : List Lx) (pv : Value) (x : List UInt8 × Bool) (W : World) (e : Ending) (W' : World) : Prop :=
  if x.2 = true then e = .returned (.tuple #[]) ∧ LxSt w B s (s.size - x.1.length) xs pv W' ∧ LxTo B pv pv W W'
  else e = thrown ((s.size - x.1.length : Nat) : Int) 20 ∧ Below w.heap.size w W'
theorem LxTo.at {B : Nat} {pv pv' : Value} {W W' : World} (h : LxTo B pv pv' W W') (v : Value) : LxTo B pv pv' W (W'.setCell ⟨B, 1, none⟩ v) :=
  ⟨by have := h.size; simpa using this, fun k hk h1 h2 => (Below.heap_setCell W' ⟨B, 1, none⟩ v k h1).trans (h.block k hk h1 h2), h.own⟩
theorem cut_le (l sep : List UInt8) : (Lib.cut l sep).1.length ≤ l.length := by
  unfold Lib.cut
  split
  · simp; omega
  · exact Nat.le_refl _
theorem pre_slash (c : UInt8) (r : List UInt8) : Lib.hasPrefix (c :: r) [47, 42] = decide (c = 47 ∧ r.head? = some 42) := by
  unfold Lib.hasPrefix
  rw [Bool.eq_iff_iff, decide_eq_true_iff]
  cases r with
  | nil =>
    constructor
    · intro h; simp [List.isPrefixOf] at h
    · rintro ⟨_, h⟩; cases h
  | cons d r =>
    simp only [List.isPrefixOf, Bool.and_eq_true, beq_iff_eq, List.head?_cons, Option.some.injEq, and_true]
    constructor
    · rintro ⟨rfl, rfl⟩; exact ⟨rfl, rfl⟩
    · rintro ⟨rfl, rfl⟩; exact ⟨rfl, rfl⟩
theorem skip_blank {c : UInt8} {r : List UInt8} (h : blankB c.toNat = true) : skipL (c :: r) = skipL r := by rw [skipL_cons, if_pos (show blB c = true from h)]
theorem skip_line {c : UInt8} {r : List UInt8} (h : blankB c.toNat = false) (h2 : c = 37) : skipL (c :: r) = skipL (dropLine r) := by rw [skipL_cons, if_neg (show ¬ blB c = true from fun q => by rw [blB, h] at q; cases q), if_pos h2]
theorem skip_stop {c : UInt8} {r : List UInt8} (h : blankB c.toNat = false) (h2 : c ≠ 37) (h3 : ¬ (c = 47 ∧ r.head? = some 42)) : skipL (c :: r) = (c :: r, true) := by rw [skipL_cons, if_neg (show ¬ blB c = true from fun q => by rw [blB, h] at q; cases q), if_neg h2, if_neg h3]
theorem skip_none {c : UInt8} {r : List UInt8} (h : blankB c.toNat = false) (h2 : c ≠ 37) (h3 : c = 47 ∧ r.head? = some 42) (h4 : dropStar r.tail = none) : skipL (c :: r) = (c :: r, false) := by rw [skipL_cons, if_neg (show ¬ blB c = true from fun q => by rw [blB, h] at q; cases q), if_neg h2, if_pos h3, h4]
theorem skip_star {c : UInt8} {r k : List UInt8} (h : blankB c.toNat = false) (h2 : c ≠ 37) (h3 : c = 47 ∧ r.head? = some 42) (h4 : dropStar r.tail = some k) : skipL (c :: r) = skipL k := by rw [skipL_cons, if_neg (show ¬ blB c = true from fun q => by rw [blB, h] at q; cases q), if_neg h2, if_pos h3, h4]
set_option maxRecDepth 100000 in
set_option maxHeartbeats 4000000 in
theorem pass_any (w : World) (B : Nat) (s : ByteArray) (a : Nat) (xs : List Lx) (pv : Value) (W : World) (h : LxSt w B s a xs pv W) (ha : a ≤ s.size) (hs : s.size ≤ 1000000) (mm : Int) (hmx : w.cell? ⟨1, 0, none⟩ = some (.int .i64 mm)) :
    Calls Tryz.prog 134 #[.pointer (some ⟨B, 0, none⟩)] W (PassQ w B s xs pv (skipL (s.data.toList.drop a)) W) := by
  generalize hD : skipL (s.data.toList.drop a) = D at *
  have HD := Lib.hid hD
  have HS := Lib.hid h
  have HJ := Lib.hid (fun a w => reject_any B s a pv w)
  clear h hD
  go_enter Tryz.func134, Tryz.ntmps134
  go_wp2_with fail
  go_step3
  go_wp2_with fail
  go_step3
  go_wp2_with fail
  go_loopw [] (fun wr => ∃ k : Nat, a ≤ k ∧ k ≤ s.size ∧ LxSt w B s k xs pv wr ∧ LxTo B pv pv W wr ∧ Hid (D = skipL (s.data.toList.drop k))) (fun wr => s.size - (intOf ((wr.cell? ⟨B, 1, none⟩).getD (.int .i64 0))).toNat)
  case atStart => exact ⟨a, Nat.le_refl _, ha, HS.out, LxTo.up (Below.refl _ _), HD.out.symm⟩
  case round =>
    obtain ⟨k, hak, hk, hL, hT, hDk⟩ := hrel
    have c0 := hL.box.cell 0
    have c1 := hL.box.cell 1
    have f1 := hL.box.frozen 1
    have l0 := hL.box.lt
    simp only [List.getElem?_toArray, List.getElem?_cons_succ, List.getElem?_cons_zero] at c0 c1
    have HM : Hid (∀ n, (wr.drewN n).cell? ⟨1, 0, none⟩ = some (.int .i64 mm)) := fun _ => (Below.cell hL.below (p := ⟨1, 0, none⟩) (World.block_lt_of_cell? w _ hmx)).trans hmx
    have HL := Lib.hid (And.intro hL hT)
    clear hL hT
    by_cases hlt : k < s.size
    · have hdc := drop_cons s k hlt
      have hxl := ext_tail s k hlt
      have hxs : (s.extract k s.size).size = s.size - k := by simp
      obtain ⟨c, hc⟩ : ∃ c, s[k] = c := ⟨_, rfl⟩
      obtain ⟨r, hr⟩ : ∃ r, s.data.toList.drop (k + 1) = r := ⟨_, rfl⟩
      rw [hc, hr] at hdc hxl
      have b1 : (0 : Int) ≤ (k : Int) := by omega
      have b2 : (k : Int) ≤ (s.size : Int) := by omega
      have HX := Lib.hid (And.intro hxl (And.intro hxs (And.intro hdc hr)))
      clear hxl hxs hdc hc hr
      go_wp2_with fail
      go_quiet (fail)
      go_wp2_with fail
      go_quiet (fail)
      generalize s.extract k s.size = X at *
      have hXl := size_list HX.out.1
      have hX2 := HX.out.2.1
      have hX0 : 0 < X.size := by have := HX.out.2.1; omega
      have g0 : X[0] = c := by have := at_list HX.out.1 0 hX0; simpa using this
      have hbl := fun w => isBlank_any (c.toNat : Int) w
      have HBL := Lib.hid hbl
      clear hbl
      go_wp2_with fail
      refine (HBL.out _).mono ?_
      rintro e w2 ⟨rfl, rfl⟩
      cases hb : blankB c.toNat with
      | true =>
        have HV : Hid (D = skipL (s.data.toList.drop (k + 1))) := by
          rw [Hid, hDk.out, HX.out.2.2.1, skip_blank hb, HX.out.2.2.2]
        clear hb
        go_wp2_with fail
        refine ⟨⟨k + 1, by omega, hlt, (HL.out.1.up (dn_below _ _)).setAt (k + 1), (HL.out.2.trans (LxTo.up (dn_below _ _))).at _, HV⟩, ?_⟩
        have k3 := fun N => ((HL.out.1.up (dn_below wr N)).setAt (k + 1)).box.cell 1
        simp only [List.getElem?_toArray, List.getElem?_cons_succ, List.getElem?_cons_zero] at k3
        refine Nat.lt_of_le_of_lt (Nat.le_of_eq (congrArg (fun o => s.size - (intOf (Option.getD o (.int .i64 0))).toNat) (k3 _))) ?_
        rw [c1]
        simp [intOf]
        omega
      | false =>
        by_cases h37 : c = 37
        · subst h37
          have hcl := drop_line (37 :: r)
          rw [show dropLine (37 :: r) = dropLine r from by rw [dropLine, if_neg (by decide)]] at hcl
          have hle := cut_le (37 :: r) [10]
          have hdl := dropLine_le r
          have hcll := congrArg List.length hcl
          have hct : ∀ w : World, w.cell? ⟨1, 0, none⟩ = some (.int .i64 mm) → Calls Tryz.prog 182 #[.string X, .string ⟨#[10]⟩] w fun e w' => e = .returned (.tuple #[.string ⟨(Lib.cut (37 :: r) [10]).1.toArray⟩, .string ⟨(Lib.cut (37 :: r) [10]).2.1.toArray⟩, .bool (Lib.cut (37 :: r) [10]).2.2]) ∧ ∃ n, w' = w.drewN n := fun w hm => by
            have h := Tryz.strings_Cut X ⟨#[10]⟩ mm w (by omega) hm
            rw [HX.out.1] at h
            exact h
          generalize Lib.cut (37 :: r) [10] = C at *
          obtain ⟨C1, C2, C3⟩ := C
          simp only [List.length_drop, List.length_cons] at hcl hle hcll hct hXl
          have HC := Lib.hid hct
          have HV : Hid (D = skipL (s.data.toList.drop (k + C1.length))) := by
            rw [Hid, hDk.out, ← List.drop_drop, HX.out.2.2.1, skip_line hb rfl, hcl]
          have hkn : k + C1.length ≤ s.size := by omega
          have hn1 : 1 ≤ C1.length := by omega
          clear hb hcl hct hdl hcll hle hXl hX2
          go_wp2_with fail
          refine (HC.out _ (HM.out _)).mono ?_
          rintro e w3 ⟨rfl, n3, rfl⟩
          go_wp2_with fail
          refine ⟨⟨k + C1.length, by omega, hkn, (HL.out.1.up (dn_below _ _)).setAt (k + C1.length), (HL.out.2.trans (LxTo.up (dn_below _ _))).at _, HV⟩, ?_⟩
          have k3 := fun N => ((HL.out.1.up (dn_below wr N)).setAt (k + C1.length)).box.cell 1
          simp only [List.getElem?_toArray, List.getElem?_cons_succ, List.getElem?_cons_zero] at k3
          refine Nat.lt_of_le_of_lt (Nat.le_of_eq (congrArg (fun o => s.size - (intOf (Option.getD o (.int .i64 0))).toNat) (k3 _))) ?_
          rw [c1]
          simp [intOf]
          omega
        · have e37 : ((c.toNat : Int) == 37) = false := ne_i (n := 37) (by omega) h37
          have hpr := fun w => Tryz.strings_HasPrefix X ⟨#[47, 42]⟩ w
          rw [HX.out.1, show (⟨#[47, 42]⟩ : ByteArray).data.toList = [47, 42] from rfl, pre_slash] at hpr
          by_cases h47 : c = 47 ∧ r.head? = some 42
          · rw [decide_eq_true h47] at hpr
            have HP := Lib.hid hpr
            have hlen2 : 2 ≤ X.size := by
              obtain ⟨_, h2⟩ := h47
              cases r with
              | nil => cases h2
              | cons d r => rw [hXl]; simp
            have hds := drop_star r.tail
            have hci := cut_is r.tail [42, 47]
            have hle := cut_le r.tail [42, 47]
            have hcn := cut_len r.tail [42, 47]
            have hrm := Lib.index_room r.tail [42, 47]
            have hYl : (X.extract 2 X.size).data.toList = r.tail := by
              rw [extract_list, HX.out.1, List.take_of_length_le (by rw [hXl]; simp)]
              cases r with
              | nil => rfl
              | cons d r => rfl
            have hct : ∀ w : World, w.cell? ⟨1, 0, none⟩ = some (.int .i64 mm) → Calls Tryz.prog 182 #[.string (X.extract 2 X.size), .string ⟨#[42, 47]⟩] w fun e w' => e = .returned (.tuple #[.string ⟨(Lib.cut r.tail [42, 47]).1.toArray⟩, .string ⟨(Lib.cut r.tail [42, 47]).2.1.toArray⟩, .bool (Lib.cut r.tail [42, 47]).2.2]) ∧ ∃ n, w' = w.drewN n := fun w hm => by
              have h := Tryz.strings_Cut (X.extract 2 X.size) ⟨#[42, 47]⟩ mm w (by simp; omega) hm
              rw [hYl] at h
              exact h
            have hrt : r.tail.length + 2 = (c :: r).length := by
              obtain ⟨_, h2⟩ := h47
              cases r with
              | nil => cases h2
              | cons d r => simp
            have hdr : ∀ n, (c :: r).drop (n + 2) = r.tail.drop n := fun n => by
              obtain ⟨_, h2⟩ := h47
              cases r with
              | nil => cases h2
              | cons d r => rw [Nat.add_comm, ← List.drop_drop]; rfl
            generalize Lib.cut r.tail [42, 47] = C at *
            obtain ⟨C1, C2, C3⟩ := C
            simp only at hds hci hle hct hcn
            have HC := Lib.hid hct
            by_cases hix : 0 ≤ Lib.index r.tail [42, 47]
            · rw [if_pos hix] at hds
              rw [decide_eq_true hix] at hci
              subst hci
              have HV : Hid (D = skipL (s.data.toList.drop (k + (C1.length + 4)))) := by
                rw [Hid, hDk.out, ← List.drop_drop, HX.out.2.2.1, skip_star hb h37 h47 hds, ← hdr]
              rw [if_pos hix] at hcn
              have hrm2 := hrm hix
              have hkn : k + (C1.length + 4) ≤ s.size := by simp only [List.length_cons, List.length_nil] at hrm2; omega
              clear hb hds hct hle hix hcn hrm hrm2 h47 h37 hpr hYl hdr hXl hX2 hrt
              go_wp2_with fail
              refine (HP.out _).mono ?_
              rintro e w3 ⟨rfl, rfl⟩
              go_wp2_with fail
              refine (HC.out _ (HM.out _)).mono ?_
              rintro e w4 ⟨rfl, n3, rfl⟩
              go_wp2_with fail
              refine ⟨⟨k + (C1.length + 4), by omega, hkn, (HL.out.1.up (dn_below _ _)).setAt (k + (C1.length + 4)), (HL.out.2.trans (LxTo.up (dn_below _ _))).at _, HV⟩, ?_⟩
              have k3 := fun N => ((HL.out.1.up (dn_below wr N)).setAt (k + (C1.length + 4))).box.cell 1
              simp only [List.getElem?_toArray, List.getElem?_cons_succ, List.getElem?_cons_zero] at k3
              refine Nat.lt_of_le_of_lt (Nat.le_of_eq (congrArg (fun o => s.size - (intOf (Option.getD o (.int .i64 0))).toNat) (k3 _))) ?_
              rw [c1]
              simp [intOf]
              omega
            · rw [if_neg hix] at hds
              rw [decide_eq_false hix] at hci
              subst hci
              have HV : Hid (D = (c :: r, false)) := by
                rw [Hid, hDk.out, HX.out.2.2.1, skip_none hb h37 h47 hds]
              have hpos : s.size - (c :: r).length = k := by omega
              have HQ := Lib.hid hpos
              clear hb hds hct hle hix hcn hrm h47 h37 hpr hYl hdr hXl hX2 hrt hpos
              go_wp2_with fail
              refine (HP.out _).mono ?_
              rintro e w3 ⟨rfl, rfl⟩
              go_wp2_with fail
              refine (HC.out _ (HM.out _)).mono ?_
              rintro e w4 ⟨rfl, n3, rfl⟩
              go_wp2_with fail
              refine (HJ.out k _ (HL.out.1.up (dn_below _ _)).box).mono ?_
              rintro e w5 ⟨rfl, rfl⟩
              refine And.intro rfl ?_
              rw [HV.out]
              unfold PassQ
              rw [if_neg (by simp), HQ.out]
              exact ⟨rfl, (HL.out.1.up (dn_below _ _)).below⟩
          · rw [decide_eq_false h47] at hpr
            have HP := Lib.hid hpr
            have HV : Hid (D = (c :: r, true)) := by
              rw [Hid, hDk.out, HX.out.2.2.1, skip_stop hb h37 h47]
            have hpos : s.size - (c :: r).length = k := by omega
            have HQ := Lib.hid hpos
            clear hb h47 h37 hpr hXl hX2 hpos
            go_wp2_with fail
            refine (HP.out _).mono ?_
            rintro e w3 ⟨rfl, rfl⟩
            go_wp2_with fail
            refine ⟨rfl, _, results_none rfl _ _ _, ?_⟩
            rw [HV.out]
            unfold PassQ
            rw [if_pos rfl, HQ.out]
            exact ⟨rfl, HL.out.1.up (dn_below _ _), HL.out.2.trans (LxTo.up (dn_below _ _))⟩
    · have hkk : k = s.size := by omega
      have HV : Hid (D = ([], true)) := by
        rw [Hid, hDk.out, List.drop_of_length_le (by simp; omega)]
        rfl
      go_wp2_with fail
      go_quiet (fail)
      go_wp2_with fail
      refine ⟨rfl, _, results_none rfl _ _ _, ?_⟩
      rw [HV.out]
      unfold PassQ
      rw [if_pos rfl]
      subst hkk
      exact ⟨rfl, HL.out.1.up (dn_below _ _), HL.out.2.trans (LxTo.up (dn_below _ _))⟩
end Go.Proofs.YthfciekhmbfmfaaGreatDoor

/- The lexer's first step: what the next lexeme is. -/
namespace Go.Proofs.YthfciekhmbfmfaaGreatDoor
open Go.RowKit Go

/-- The step that cuts the lexeme that begins with a byte. -/
def stepF (c : UInt8) : Option FuncId :=
  if smallB c.toNat then some 136
  else if cap_B c.toNat then some 138
  else if digB c.toNat then some 140
  else if symbolB c.toNat then some 142
  else if signB c.toNat then some 144
  else if c = 39 then some 145
  else if c = 34 then some 146
  else none
def stepV (f : FuncId) : Value := .func (.func f) #[] #[]
/-- What begin does: it throws, or ends, or goes on. -/
def BegQ (w : World) (B : Nat) (s : ByteArray) (xs : List Lx) (pv : Value) (x : List UInt8 × Bool) (W : World) (e : Ending) (W' : World) : Prop :=
  match x with
  | (l, false) => e = thrown ((s.size - l.length : Nat) : Int) 20 ∧ Below w.heap.size w W'
  | ([], true) => e = .returned (.agg #[.nilFunc]) ∧ LxSt w B s s.size xs pv W' ∧ LxTo B pv pv W W'
  | (c :: r, true) =>
    match stepF c with
    | some f => e = .returned (.agg #[stepV f]) ∧ LxSt w B s (s.size - (c :: r).length) xs pv W' ∧ LxTo B pv pv W W'
    | none => e = thrown ((s.size - (c :: r).length : Nat) : Int) 20 ∧ Below w.heap.size w W'
theorem skipL_suffix : ∀ (n : Nat) (l : List UInt8), l.length ≤ n → ∃ m, (skipL l).1 = l.drop m := by
  intro n
  induction n with
  | zero =>
    intro l h
    obtain rfl : l = [] := List.length_eq_zero_iff.1 (by omega)
    exact ⟨0, rfl⟩
  | succ n ih =>
    intro l h
    cases l with
    | nil => exact ⟨0, rfl⟩
    | cons c r =>
      simp only [List.length_cons] at h
      rw [skipL_cons]
      split
      · obtain ⟨m, hm⟩ := ih r (by omega)
        exact ⟨m + 1, hm⟩
      · split
        · have hl := dropLine_le r
          obtain ⟨m, hm⟩ := ih (dropLine r) (by omega)
          have h2 := drop_line r
          refine ⟨m + (Lib.cut r [10]).1.length + 1, ?_⟩
          rw [hm, ← h2, List.drop_drop, List.drop_succ_cons, Nat.add_comm]
        · split
          · cases hs : dropStar r.tail with
            | none => exact ⟨0, rfl⟩
            | some k =>
              have h3 := dropStar_lt _ _ hs
              have h4 : r.tail.length ≤ r.length := by simp
              obtain ⟨m, hm⟩ := ih k (by omega)
              have h5 := drop_star r.tail
              rw [hs] at h5
              split at h5
              · cases h5
                refine ⟨m + ((Lib.cut r.tail [42, 47]).1.length + 2) + 1 + 1, ?_⟩
                show (skipL _).1 = _
                rw [hm, List.drop_drop, List.drop_succ_cons, ← List.drop_one, List.drop_drop]
                congr 1
                omega
              · cases h5
          · exact ⟨0, rfl⟩
set_option maxRecDepth 100000 in
set_option maxHeartbeats 8000000 in
theorem begin_any (w : World) (B : Nat) (s : ByteArray) (a : Nat) (xs : List Lx) (pv : Value) (W : World) (h : LxSt w B s a xs pv W) (ha : a ≤ s.size) (hs : s.size ≤ 1000000) (mm : Int) (hmx : w.cell? ⟨1, 0, none⟩ = some (.int .i64 mm)) :
    Calls Tryz.prog 98 #[.pointer (some ⟨B, 0, none⟩)] W (BegQ w B s xs pv (skipL (s.data.toList.drop a)) W) := by
  have hps := fun W h => pass_any w B s a xs pv W h ha hs mm hmx
  obtain ⟨m, hm⟩ := skipL_suffix _ (s.data.toList.drop a) (Nat.le_refl _)
  rw [List.drop_drop] at hm
  generalize skipL (s.data.toList.drop a) = D at *
  have h0 := h.up (below_a1 (Nat.le_refl W.heap.size) (.cells #[.nilFunc] 133))
  have HS := Lib.hid (And.intro h (And.intro h0 (hps _ h0)))
  have HJ := Lib.hid (fun a w => reject_any B s a pv w)
  clear h h0 hps
  obtain ⟨l, b⟩ := D
  simp only at hm
  have HMM := Lib.hid hm
  clear hm
  go_enter Tryz.func98, Tryz.ntmps98
  go_wp2_with fail
  refine (HS.out.2.2).mono ?_
  rintro e W2 hP
  cases b with
  | false =>
    unfold PassQ at hP
    rw [if_neg (by simp)] at hP
    obtain ⟨rfl, hB⟩ := hP
    exact And.intro rfl ⟨rfl, hB⟩
  | true =>
    unfold PassQ at hP
    rw [if_pos rfl] at hP
    obtain ⟨rfl, hL2, hT2⟩ := hP
    simp only at hL2
    have c0 := hL2.box.cell 0
    have c1 := hL2.box.cell 1
    have l0 := hL2.box.lt
    simp only [List.getElem?_toArray, List.getElem?_cons_succ, List.getElem?_cons_zero] at c0 c1
    have hfin := fun N v => cut_fin HS.out.1 (Below.refl _ _) (hL2.up (dn_below W2 N)) (hT2.trans (LxTo.up (dn_below W2 N))) v
    have hst : ∀ N g, (store ⟨W.heap.size, 0, none⟩ (.func (.func g) #[] #[])).run Tryz.prog (W2.drewN N) = .ok () ((W2.drewN N).setCell ⟨W.heap.size, 0, none⟩ (.func (.func g) #[] #[])) := fun N g => by
      have k7 := (hfin N .nilFunc).1.cell 0
      have k8 := (hfin N .nilFunc).1.frozen 0
      simp only [List.getElem?_toArray, List.getElem?_cons_zero] at k7
      rw [run_store _ _ _ _ _ rfl, k7, k8]
      rfl
    have hsn : ∀ N, (store ⟨W.heap.size, 0, none⟩ .nilFunc).run Tryz.prog (W2.drewN N) = .ok () ((W2.drewN N).setCell ⟨W.heap.size, 0, none⟩ .nilFunc) := fun N => by
      have k7 := (hfin N .nilFunc).1.cell 0
      have k8 := (hfin N .nilFunc).1.frozen 0
      simp only [List.getElem?_toArray, List.getElem?_cons_zero] at k7
      rw [run_store _ _ _ _ _ rfl, k7, k8]
      rfl
    have HF := Lib.hid hfin
    have HL2 := Lib.hid (And.intro hL2 hT2)
    clear hfin hL2 hT2
    rcases l with _ | ⟨c, r⟩
    · have he : s.size - ([] : List UInt8).length = s.size := by simp
      rw [he] at c1 HF
      go_wp2_with fail
      go_quiet (fail)
      go_wp2_with fail
      have k9 := fun N v => (HF.out N v).2.2.2
      refine bodyPost_ret (v := .agg #[.nilFunc]) (by simp [results, Tryz.results98, k9, go_sem]) rfl ?_
      exact ⟨rfl, (HF.out _ _).2.1, (HF.out _ _).2.2.1⟩
    · have hm := HMM.out
      obtain ⟨k, hk⟩ : ∃ k, s.size - (c :: r).length = k := ⟨_, rfl⟩
      have hlen := congrArg List.length hm
      have hdl : (s.data.toList.drop (a + m)).length = s.size - (a + m) := by simp
      rw [hdl] at hlen
      simp only [List.length_cons] at hlen hk
      have hka : k = a + m := by omega
      have hlt : k < s.size := by omega
      have hdc := drop_cons s k hlt
      rw [← hka] at hm
      rw [← hm] at hdc
      have hck : s[k] = c := by
        have := List.cons.inj hdc
        exact this.1.symm
      have HQ : Hid (BegQ w B s xs pv (c :: r, true) W = fun e W' => match stepF c with | some f => e = .returned (.agg #[stepV f]) ∧ LxSt w B s k xs pv W' ∧ LxTo B pv pv W W' | none => e = thrown (k : Int) 20 ∧ Below w.heap.size w W') := by
        rw [Hid]
        unfold BegQ
        simp only [List.length_cons, hk]
        try rfl
      simp only [List.length_cons, hk] at c1 HF HL2
      have hne : ¬ ((k : Int) = (s.size : Int)) := by omega
      have HC1 := Lib.hid (fun w => isSmall_any (c.toNat : Int) w)
      have HC2 := Lib.hid (fun w => isCapital_any (c.toNat : Int) w)
      have HC3 := Lib.hid (fun w => isDigit_any (c.toNat : Int) w)
      have HC4 := Lib.hid (fun w => isSymbol_any c w)
      have HC5 := Lib.hid (fun w => isSign_any c w)
      clear hm hlen hdl hka hdc hk
      cases h1 : smallB c.toNat with
      | true =>
        go_wp2_with fail
        go_quiet (fail)
        go_wp2_with fail
        go_quiet (fail)
        go_wp2_with fail
        refine (HC1.out _).mono ?_
        rintro e w1 ⟨rfl, rfl⟩
        rw [h1]
        go_wp2_with fail
        have k9 := fun N v => (HF.out N v).2.2.2
        refine bodyPost_ret (v := .agg #[stepV 136]) (by simp [results, Tryz.results98, k9, go_sem, stepV]) rfl ?_
        rw [HQ.out, show stepF c = some 136 by unfold stepF; simp [h1]]
        exact ⟨rfl, (HF.out _ _).2.1, (HF.out _ _).2.2.1⟩
      | false =>
        cases h2 : capB c.toNat with
        | true =>
          go_wp2_with fail
          go_quiet (fail)
          go_wp2_with fail
          go_quiet (fail)
          go_wp2_with fail
          refine (HC1.out _).mono ?_
          rintro e w1 ⟨rfl, rfl⟩
          rw [h1]
          go_wp2_with fail
          refine (HC2.out _).mono ?_
          rintro e w2 ⟨rfl, rfl⟩
          rw [h2]
          go_wp2_with fail
          have k9 := fun N v => (HF.out N v).2.2.2
          refine bodyPost_ret (v := .agg #[stepV 138]) (by simp [results, Tryz.results98, k9, go_sem, stepV]) rfl ?_
          rw [HQ.out, show stepF c = some 138 by unfold stepF; simp [h1, cap_B, h2]]
          exact ⟨rfl, (HF.out _ _).2.1, (HF.out _ _).2.2.1⟩
        | false =>
          by_cases h95 : c = 95
          · subst h95
            go_wp2_with fail
            go_quiet (fail)
            go_wp2_with fail
            go_quiet (fail)
            go_wp2_with fail
            refine (HC1.out _).mono ?_
            rintro e w1 ⟨rfl, rfl⟩
            rw [h1]
            go_wp2_with fail
            refine (HC2.out _).mono ?_
            rintro e w2 ⟨rfl, rfl⟩
            rw [h2]
            go_wp2_with fail
            have k9 := fun N v => (HF.out N v).2.2.2
            refine bodyPost_ret (v := .agg #[stepV 138]) (by simp [results, Tryz.results98, k9, go_sem, stepV]) rfl ?_
            rw [HQ.out, show stepF 95 = some 138 from rfl]
            exact ⟨rfl, (HF.out _ _).2.1, (HF.out _ _).2.2.1⟩
          · have e95 : ((c.toNat : Int) == 95) = false := ne_i (n := 95) (by omega) h95
            have hcap : cap_B c.toNat = false := by rw [cap_B, h2]; simpa using e95
            cases h3 : digB c.toNat with
            | true =>
              go_wp2_with fail
              go_quiet (fail)
              go_wp2_with fail
              go_quiet (fail)
              go_wp2_with fail
              refine (HC1.out _).mono ?_
              rintro e w1 ⟨rfl, rfl⟩
              rw [h1]
              go_wp2_with fail
              refine (HC2.out _).mono ?_
              rintro e w2 ⟨rfl, rfl⟩
              rw [h2]
              go_wp2_with fail
              refine (HC3.out _).mono ?_
              rintro e w3 ⟨rfl, rfl⟩
              rw [h3]
              go_wp2_with fail
              have k9 := fun N v => (HF.out N v).2.2.2
              refine bodyPost_ret (v := .agg #[stepV 140]) (by simp [results, Tryz.results98, k9, go_sem, stepV]) rfl ?_
              rw [HQ.out, show stepF c = some 140 by unfold stepF; simp [h1, hcap, h3]]
              exact ⟨rfl, (HF.out _ _).2.1, (HF.out _ _).2.2.1⟩
            | false =>
              cases h4 : symbolB c.toNat with
              | true =>
                go_wp2_with fail
                go_quiet (fail)
                go_wp2_with fail
                go_quiet (fail)
                go_wp2_with fail
                refine (HC1.out _).mono ?_
                rintro e w1 ⟨rfl, rfl⟩
                rw [h1]
                go_wp2_with fail
                refine (HC2.out _).mono ?_
                rintro e w2 ⟨rfl, rfl⟩
                rw [h2]
                go_wp2_with fail
                refine (HC3.out _).mono ?_
                rintro e w3 ⟨rfl, rfl⟩
                rw [h3]
                go_wp2_with fail
                refine (HC4.out _).mono ?_
                rintro e w4 ⟨rfl, rfl⟩
                rw [h4]
                go_wp2_with fail
                have k9 := fun N v => (HF.out N v).2.2.2
                refine bodyPost_ret (v := .agg #[stepV 142]) (by simp [results, Tryz.results98, k9, go_sem, stepV]) rfl ?_
                rw [HQ.out, show stepF c = some 142 by unfold stepF; simp [h1, hcap, h3, h4]]
                exact ⟨rfl, (HF.out _ _).2.1, (HF.out _ _).2.2.1⟩
              | false =>
                cases h5 : signB c.toNat with
                | true =>
                  go_wp2_with fail
                  go_quiet (fail)
                  go_wp2_with fail
                  go_quiet (fail)
                  go_wp2_with fail
                  refine (HC1.out _).mono ?_
                  rintro e w1 ⟨rfl, rfl⟩
                  rw [h1]
                  go_wp2_with fail
                  refine (HC2.out _).mono ?_
                  rintro e w2 ⟨rfl, rfl⟩
                  rw [h2]
                  go_wp2_with fail
                  refine (HC3.out _).mono ?_
                  rintro e w3 ⟨rfl, rfl⟩
                  rw [h3]
                  go_wp2_with fail
                  refine (HC4.out _).mono ?_
                  rintro e w4 ⟨rfl, rfl⟩
                  rw [h4]
                  go_wp2_with fail
                  refine (HC5.out _).mono ?_
                  rintro e w5 ⟨rfl, rfl⟩
                  rw [h5]
                  go_wp2_with fail
                  have k9 := fun N v => (HF.out N v).2.2.2
                  refine bodyPost_ret (v := .agg #[stepV 144]) (by simp [results, Tryz.results98, k9, go_sem, stepV]) rfl ?_
                  rw [HQ.out, show stepF c = some 144 by unfold stepF; simp [h1, hcap, h3, h4, h5]]
                  exact ⟨rfl, (HF.out _ _).2.1, (HF.out _ _).2.2.1⟩
                | false =>
                  by_cases h39 : c = 39
                  · subst h39
                    go_wp2_with fail
                    go_quiet (fail)
                    go_wp2_with fail
                    go_quiet (fail)
                    go_wp2_with fail
                    refine (HC1.out _).mono ?_
                    rintro e w1 ⟨rfl, rfl⟩
                    rw [h1]
                    go_wp2_with fail
                    refine (HC2.out _).mono ?_
                    rintro e w2 ⟨rfl, rfl⟩
                    rw [h2]
                    go_wp2_with fail
                    refine (HC3.out _).mono ?_
                    rintro e w3 ⟨rfl, rfl⟩
                    rw [h3]
                    go_wp2_with fail
                    refine (HC4.out _).mono ?_
                    rintro e w4 ⟨rfl, rfl⟩
                    rw [h4]
                    go_wp2_with fail
                    refine (HC5.out _).mono ?_
                    rintro e w5 ⟨rfl, rfl⟩
                    rw [h5]
                    go_wp2_with fail
                    have k9 := fun N v => (HF.out N v).2.2.2
                    refine bodyPost_ret (v := .agg #[stepV 145]) (by simp [results, Tryz.results98, k9, go_sem, stepV]) rfl ?_
                    rw [HQ.out, show stepF 39 = some 145 from rfl]
                    exact ⟨rfl, (HF.out _ _).2.1, (HF.out _ _).2.2.1⟩
                  · have e39 : ((c.toNat : Int) == 39) = false := ne_i (n := 39) (by omega) h39
                    by_cases h34 : c = 34
                    · subst h34
                      go_wp2_with fail
                      go_quiet (fail)
                      go_wp2_with fail
                      go_quiet (fail)
                      go_wp2_with fail
                      refine (HC1.out _).mono ?_
                      rintro e w1 ⟨rfl, rfl⟩
                      rw [h1]
                      go_wp2_with fail
                      refine (HC2.out _).mono ?_
                      rintro e w2 ⟨rfl, rfl⟩
                      rw [h2]
                      go_wp2_with fail
                      refine (HC3.out _).mono ?_
                      rintro e w3 ⟨rfl, rfl⟩
                      rw [h3]
                      go_wp2_with fail
                      refine (HC4.out _).mono ?_
                      rintro e w4 ⟨rfl, rfl⟩
                      rw [h4]
                      go_wp2_with fail
                      refine (HC5.out _).mono ?_
                      rintro e w5 ⟨rfl, rfl⟩
                      rw [h5]
                      go_wp2_with fail
                      have k9 := fun N v => (HF.out N v).2.2.2
                      refine bodyPost_ret (v := .agg #[stepV 146]) (by simp [results, Tryz.results98, k9, go_sem, stepV]) rfl ?_
                      rw [HQ.out, show stepF 34 = some 146 from rfl]
                      exact ⟨rfl, (HF.out _ _).2.1, (HF.out _ _).2.2.1⟩
                    · have e34 : ((c.toNat : Int) == 34) = false := ne_i (n := 34) (by omega) h34
                      go_wp2_with fail
                      go_quiet (fail)
                      go_wp2_with fail
                      go_quiet (fail)
                      go_wp2_with fail
                      refine (HC1.out _).mono ?_
                      rintro e w1 ⟨rfl, rfl⟩
                      rw [h1]
                      go_wp2_with fail
                      refine (HC2.out _).mono ?_
                      rintro e w2 ⟨rfl, rfl⟩
                      rw [h2]
                      go_wp2_with fail
                      refine (HC3.out _).mono ?_
                      rintro e w3 ⟨rfl, rfl⟩
                      rw [h3]
                      go_wp2_with fail
                      refine (HC4.out _).mono ?_
                      rintro e w4 ⟨rfl, rfl⟩
                      rw [h4]
                      go_wp2_with fail
                      refine (HC5.out _).mono ?_
                      rintro e w5 ⟨rfl, rfl⟩
                      rw [h5]
                      go_wp2_with fail
                      refine (HJ.out k _ (HL2.out.1.up (dn_below _ _)).box).mono ?_
                      rintro e w9 ⟨rfl, rfl⟩
                      refine And.intro rfl ?_
                      rw [HQ.out, show stepF c = none by unfold stepF; simp [h1, hcap, h3, h4, h5, h39, h34]]
                      exact ⟨rfl, (HL2.out.1.up (dn_below _ _)).below⟩
end Go.Proofs.YthfciekhmbfmfaaGreatDoor
