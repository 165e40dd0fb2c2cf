/- One byte of what stands in quotes: read.unquote. -/
import Derived.RegionTactic
import Derived.Deep.RegionWith
import Derived.Test.YthfciekhmbfmfaaGreatDoorLexF
import Derived.Test.YthfciekhmbfmfaaGreatDoorBytes
namespace Go.Proofs.YthfciekhmbfmfaaGreatDoor
open Go.RowKit Go

theorem hex_ix (c : UInt8) : Lib.indexByte [48, 49, 50, 51, 52, 53, 54, 55, 56, 57, 97, 98, 99, 100, 101, 102] c = hexV c := by
  have key : ∀ n : Fin 256, Lib.indexByte [48, 49, 50, 51, 52, 53, 54, 55, 56, 57, 97, 98, 99, 100, 101, 102] (UInt8.ofNat n.1) = hexV (UInt8.ofNat n.1) := by decide +kernel
  have h := key ⟨c.toNat, c.toNat_lt⟩
  simpa using h
theorem hexV_ge (c : UInt8) : -1 ≤ hexV c ∧ hexV c ≤ 15 := by
  have key : ∀ n : Fin 256, -1 ≤ hexV (UInt8.ofNat n.1) ∧ hexV (UInt8.ofNat n.1) ≤ 15 := by decide +kernel
  have h := key ⟨c.toNat, c.toNat_lt⟩
  simpa using h
theorem ne_i {c : UInt8} {n : Nat} (hn : n < 256) (h : c ≠ UInt8.ofNat n) : ((c.toNat : Int) == (n : Int)) = false := by
  simp only [beq_eq_false_iff_ne]
  intro e
  apply h
  apply UInt8.toNat_inj.1
  rw [UInt8.toNat_ofNat']
  omega
theorem ne_c {c d : UInt8} (h : c ≠ d) : ((c.toNat : Int) == (d.toNat : Int)) = false := by
  simp only [beq_eq_false_iff_ne]
  intro e
  exact h (UInt8.toNat_inj.1 (by omega))
theorem shown92 : shownB 92 = true := by decide
def UnqQ (x : UInt8 × Nat) (w : World) (e : Ending) (w' : World) : Prop := e = .returned (.tuple #[.int .u8 (x.1.toNat : Int), .int .i64 (x.2 : Int)]) ∧ Below w.heap.size w w'
theorem at_list {t : ByteArray} {l : List UInt8} (h : t.data.toList = l) (k : Nat) (hk : k < t.size) : some t[k] = l[k]? := by
  subst h
  rw [List.getElem?_eq_getElem (by simpa using hk)]
  simp
  rfl
theorem size_list {t : ByteArray} {l : List UInt8} (h : t.data.toList = l) : t.size = l.length := by subst h; simp
set_option maxRecDepth 100000 in
set_option maxHeartbeats 4000000 in
theorem unquote_any (t : ByteArray) (q c : UInt8) (r : List UInt8) (hl : t.data.toList = c :: r) (hs : t.size ≤ 1000000) (w : World) : Calls Tryz.prog 207 #[.string t, .int .u8 (q.toNat : Int)] w (UnqQ (unqF q (c :: r)) w) := by
  have hsz := size_list hl
  have h0 : 0 < t.size := by rw [hsz]; simp
  have g0 : t[0] = c := by have := at_list hl 0 h0; simpa using this
  have hsw := fun w => isShown_any (c.toNat : Int) w
  cases hsh : shownB c.toNat with
  | false =>
    rw [hsh] at hsw
    have HSW := Lib.hid hsw
    have HV : Hid (unqF q (c :: r) = (0, 0)) := by rw [Hid, unqF.eq_def]; simp [hsh]
    clear hsw hsh hsz hl
    go_enter Tryz.func207, Tryz.ntmps207
    go_wp2_with fail
    refine (HSW.out _).mono ?_
    rintro e w' ⟨rfl, rfl⟩
    go_wp2_with fail
    go_ret2
    exact ⟨by rw [HV.out]; rfl, by first | exact Below.refl _ _ | exact drw_only _⟩
  | true =>
    rw [hsh] at hsw
    have HSW := Lib.hid hsw
    clear hsw
    by_cases hc : c = 92
    · subst hc
      cases r with
      | nil =>
        have e1 : ((t.size : Nat) : Int) = 1 := by rw [hsz]; simp
        have HV : Hid (unqF q [92] = (0, 0)) := by rw [Hid, unqF.eq_def]; simp [shown92]
        clear hsh hsz hl
        go_enter Tryz.func207, Tryz.ntmps207
        go_wp2_with fail
        refine (HSW.out _).mono ?_
        rintro e w' ⟨rfl, rfl⟩
        go_wp2_with fail
        go_ret2
        exact ⟨by rw [HV.out]; rfl, by first | exact Below.refl _ _ | exact drw_only _⟩
      | cons d r =>
        have h1 : 1 < t.size := by rw [hsz]; simp
        have g1 : t[1] = d := by have := at_list hl 1 h1; simpa using this
        have e1 : (((t.size : Nat) : Int) == 1) = false := by simp; omega
        by_cases hq : d = q
        · subst hq
          have HV : Hid (unqF d (92 :: d :: r) = (d, 2)) := by rw [Hid, unqF.eq_def]; simp [shown92]
          clear hsh hsz hl
          go_enter Tryz.func207, Tryz.ntmps207
          go_wp2_with fail
          refine (HSW.out _).mono ?_
          rintro e w' ⟨rfl, rfl⟩
          go_wp2_with fail
          go_ret2
          exact ⟨by rw [HV.out]; rfl, by first | exact Below.refl _ _ | exact drw_only _⟩
        have eq : ((d.toNat : Int) == (q.toNat : Int)) = false := ne_c hq
        by_cases h92 : d = 92
        · subst h92
          have eq' : ((92 : Int) == (q.toNat : Int)) = false := eq
          clear eq
          have HV : Hid (unqF q (92 :: 92 :: r) = (92, 2)) := by rw [Hid, unqF.eq_def]; simp [shown92]
          clear hsh hsz hl hq
          go_enter Tryz.func207, Tryz.ntmps207
          go_wp2_with fail
          refine (HSW.out _).mono ?_
          rintro e w' ⟨rfl, rfl⟩
          go_wp2_with fail
          go_ret2
          exact ⟨by rw [HV.out]; rfl, by first | exact Below.refl _ _ | exact drw_only _⟩
        have e92 : ((d.toNat : Int) == 92) = false := ne_i (n := 92) (by omega) h92
        by_cases hq39 : q = 39
        · subst hq39
          have eq' : ((d.toNat : Int) == 39) = false := eq
          clear eq
          have HV : Hid (unqF 39 (92 :: d :: r) = (0, 0)) := by rw [Hid, unqF.eq_def]; simp [shown92, hq, h92]
          clear hsh hsz hl hq h92
          go_enter Tryz.func207, Tryz.ntmps207
          go_wp2_with fail
          refine (HSW.out _).mono ?_
          rintro e w' ⟨rfl, rfl⟩
          go_wp2_with fail
          go_ret2
          exact ⟨by rw [HV.out]; rfl, by first | exact Below.refl _ _ | exact drw_only _⟩
        have e39 : ((q.toNat : Int) == 39) = false := ne_i (n := 39) (by omega) hq39
        by_cases h110 : d = 110
        · subst h110
          have eq' : ((110 : Int) == (q.toNat : Int)) = false := eq
          clear eq e92
          have HV : Hid (unqF q (92 :: 110 :: r) = (10, 2)) := by rw [Hid, unqF.eq_def]; simp [shown92, hq, hq39]
          clear hsh hsz hl hq h92 hq39
          go_enter Tryz.func207, Tryz.ntmps207
          go_wp2_with fail
          refine (HSW.out _).mono ?_
          rintro e w' ⟨rfl, rfl⟩
          go_wp2_with fail
          go_ret2
          exact ⟨by rw [HV.out]; rfl, by first | exact Below.refl _ _ | exact drw_only _⟩
        have e110 : ((d.toNat : Int) == 110) = false := ne_i (n := 110) (by omega) h110
        by_cases h120 : d = 120
        · subst h120
          have eq' : ((120 : Int) == (q.toNat : Int)) = false := eq
          clear eq e92 e110
          by_cases h4 : t.size < 4
          · have HV : Hid (unqF q (92 :: 120 :: r) = (0, 0)) := by
              rw [Hid, unqF.eq_def]
              rcases r with _ | ⟨x, _ | ⟨y, r⟩⟩
              · simp [shown92, hq, hq39]
              · simp [shown92, hq, hq39]
              · exfalso
                rw [hsz] at h4
                simp at h4
                omega
            have h4' : ((t.size : Nat) : Int) < 4 := by omega
            clear hsh hsz hl hq h92 hq39 h110 h4
            go_enter Tryz.func207, Tryz.ntmps207
            go_wp2_with fail
            refine (HSW.out _).mono ?_
            rintro e w' ⟨rfl, rfl⟩
            go_wp2_with fail
            go_ret2
            exact ⟨by rw [HV.out]; rfl, by first | exact Below.refl _ _ | exact drw_only _⟩
          · obtain ⟨x, y, r, rfl⟩ : ∃ x y r', r = x :: y :: r' := by
              rcases r with _ | ⟨x, _ | ⟨y, r⟩⟩
              · exfalso; rw [hsz] at h4; simp at h4
              · exfalso; rw [hsz] at h4; simp at h4
              · exact ⟨x, y, r, rfl⟩
            have h2 : 2 < t.size := by omega
            have h3 : 3 < t.size := by omega
            have g2 : t[2] = x := by have := at_list hl 2 h2; simpa using this
            have g3 : t[3] = y := by have := at_list hl 3 h3; simpa using this
            have h4' : ¬ ((t.size : Nat) : Int) < 4 := by omega
            have hcx := fun w => Tryz.strings_IndexByte ⟨#[48, 49, 50, 51, 52, 53, 54, 55, 56, 57, 97, 98, 99, 100, 101, 102]⟩ (x.toNat : Int) w
            have hcy := fun w => Tryz.strings_IndexByte ⟨#[48, 49, 50, 51, 52, 53, 54, 55, 56, 57, 97, 98, 99, 100, 101, 102]⟩ (y.toNat : Int) w
            rw [byte_back] at hcx hcy
            have ex := hex_ix x
            have ey := hex_ix y
            rw [show Lib.indexByte (⟨#[48, 49, 50, 51, 52, 53, 54, 55, 56, 57, 97, 98, 99, 100, 101, 102]⟩ : ByteArray).data.toList x = hexV x from ex] at hcx
            rw [show Lib.indexByte (⟨#[48, 49, 50, 51, 52, 53, 54, 55, 56, 57, 97, 98, 99, 100, 101, 102]⟩ : ByteArray).data.toList y = hexV y from ey] at hcy
            have hgx := hexV_ge x
            have hgy := hexV_ge y
            have HV0 : Hid (unqF q (92 :: 120 :: x :: y :: r) = if hexV x < 0 ∨ hexV y < 0 then (0, 0) else (UInt8.ofNat (16 * (hexV x).toNat + (hexV y).toNat), 4)) := by rw [Hid, unqF.eq_def]; simp [shown92, hq, hq39]
            obtain ⟨X, hX⟩ : ∃ X, hexV x = X := ⟨_, rfl⟩
            obtain ⟨Y, hY⟩ : ∃ Y, hexV y = Y := ⟨_, rfl⟩
            rw [hX] at hcx hgx HV0
            rw [hY] at hcy hgy HV0
            have HC := Lib.hid (And.intro hcx hcy)
            clear hcx hcy ex ey hX hY hsh hsz hl hq h92 hq39 h110 h4
            have hbx : X < 0 ∨ 0 ≤ X ∧ Y < 0 ∨ 0 ≤ X ∧ 0 ≤ Y := by omega
            rcases hbx with hx | ⟨hx, hy⟩ | ⟨hx, hy⟩
            · have HV := HV0.out
              rw [if_pos (.inl hx)] at HV
              have HV := Lib.hid HV
              clear HV0
              go_enter Tryz.func207, Tryz.ntmps207
              go_wp2_with fail
              refine (HSW.out _).mono ?_
              rintro e w' ⟨rfl, rfl⟩
              go_wp2_with fail
              go_region_with (go_at_call 187; first | (refine (HC.out.1 _).mono ?_; rintro e w' ⟨rfl, rfl⟩) | (refine (HC.out.2 _).mono ?_; rintro e w' ⟨rfl, rfl⟩))
              all_goals go_wp2_with fail
              all_goals go_ret2
              all_goals exact ⟨by rw [HV.out]; rfl, by first | exact Below.refl _ _ | exact drw_only _⟩
            · have HV := HV0.out
              rw [if_pos (.inr hy)] at HV
              have HV := Lib.hid HV
              clear HV0
              have hx2 : ¬ X < 0 := by omega
              go_enter Tryz.func207, Tryz.ntmps207
              go_wp2_with fail
              refine (HSW.out _).mono ?_
              rintro e w' ⟨rfl, rfl⟩
              go_wp2_with fail
              go_region_with (go_at_call 187; first | (refine (HC.out.1 _).mono ?_; rintro e w' ⟨rfl, rfl⟩) | (refine (HC.out.2 _).mono ?_; rintro e w' ⟨rfl, rfl⟩))
              all_goals go_wp2_with fail
              all_goals go_ret2
              all_goals exact ⟨by rw [HV.out]; rfl, by first | exact Below.refl _ _ | exact drw_only _⟩
            · have HV := HV0.out
              rw [if_neg (by omega)] at HV
              have HV := Lib.hid HV
              clear HV0
              have hx2 : ¬ X < 0 := by omega
              have hy2 : ¬ Y < 0 := by omega
              have hw1 : IntKind.wrap .i64 (16 * X) = 16 * X := by simp [IntKind.wrap, IntKind.bits, IntKind.signed]; omega
              have hw2 : IntKind.wrap .i64 (16 * X + Y) = 16 * X + Y := by simp [IntKind.wrap, IntKind.bits, IntKind.signed]; omega
              have hw3 : IntKind.wrap .u8 (16 * X + Y) = 16 * X + Y := by simp [IntKind.wrap, IntKind.bits, IntKind.signed]; omega
              have HB : Hid (((UInt8.ofNat (16 * X.toNat + Y.toNat)).toNat : Int) = 16 * X + Y) := by rw [Hid, UInt8.toNat_ofNat']; omega
              go_enter Tryz.func207, Tryz.ntmps207
              go_wp2_with fail
              refine (HSW.out _).mono ?_
              rintro e w' ⟨rfl, rfl⟩
              go_wp2_with fail
              go_region_with (go_at_call 187; first | (refine (HC.out.1 _).mono ?_; rintro e w' ⟨rfl, rfl⟩) | (refine (HC.out.2 _).mono ?_; rintro e w' ⟨rfl, rfl⟩))
              all_goals go_wp2_with fail
              all_goals go_ret2
              all_goals exact ⟨by rw [HV.out, HB.out]; rfl, by first | exact Below.refl _ _ | exact drw_only _⟩
        · have e120 : ((d.toNat : Int) != 120) = true := by have h := ne_i (n := 120) (by omega) h120; simpa using h
          have HV : Hid (unqF q (92 :: d :: r) = (0, 0)) := by rw [Hid, unqF.eq_def]; simp [shown92, hq, h92, hq39, h110, h120]
          clear hsh hsz hl hq h92 hq39 h110 h120
          go_enter Tryz.func207, Tryz.ntmps207
          go_wp2_with fail
          refine (HSW.out _).mono ?_
          rintro e w' ⟨rfl, rfl⟩
          go_wp2_with fail
          go_ret2
          exact ⟨by rw [HV.out]; rfl, by first | exact Below.refl _ _ | exact drw_only _⟩
    · have hc' : ((c.toNat : Int) == 92) = false := ne_i (n := 92) (by omega) hc
      have HV : Hid (unqF q (c :: r) = (c, 1)) := by rw [Hid, unqF.eq_def]; simp [hsh, hc]
      clear hsh hsz hl hc
      go_enter Tryz.func207, Tryz.ntmps207
      go_wp2_with fail
      refine (HSW.out _).mono ?_
      rintro e w' ⟨rfl, rfl⟩
      go_wp2_with fail
      go_ret2
      exact ⟨by rw [HV.out]; rfl, by first | exact Below.refl _ _ | exact drw_only _⟩
end Go.Proofs.YthfciekhmbfmfaaGreatDoor
