/- The lexer's step that cuts a sign. -/
import Derived.Test.YthfciekhmbfmfaaGreatDoorCutq
namespace Go.Proofs.YthfciekhmbfmfaaGreatDoor
open Go.RowKit Go

theorem ext_one (s : ByteArray) (a : Nat) (h : a < s.size) : s.extract a (a + 1) = ⟨#[s[a]]⟩ := by
  apply bytes_eq
  rw [extract_list, drop_cons s a h]
  simp
set_option maxRecDepth 100000 in
set_option maxHeartbeats 4000000 in
theorem cutSign_any (w : World) (B : Nat) (s : ByteArray) (a : Nat) (xs : List Lx) (pv : Value) (W : World) (h : LxSt w B s a xs pv W) (hx : xs.length ≤ 100000) (ha : a < s.size) (hs : s.size ≤ 1000000) :
    Calls Tryz.prog 144 #[.pointer (some ⟨B, 0, none⟩)] W (CutQ w B s a xs pv (some (⟨.sign, [s[a]], 0⟩, 1)) W) := by
  have hadd := fun W h => add_any w B s a (a + 1) xs ⟨.sign, [s[a]], 0⟩ pv W h hx
  have hex := ext_one s a ha
  have hA1 : ((a + 1 : Nat) : Int) = (a : Int) + 1 := by omega
  rw [hA1] at hadd
  have HA := Lib.hid hadd
  have HS := Lib.hid h
  have h0 := h.up (below_a1 (Nat.le_refl W.heap.size) (.cells #[.nilFunc] 133))
  have c0 := h0.box.cell 0
  have c1 := h0.box.cell 1
  simp only [List.getElem?_toArray, List.getElem?_cons_succ, List.getElem?_cons_zero] at c0 c1
  have H0 := Lib.hid h0
  have b1 : (0 : Int) ≤ (a : Int) := by omega
  have b2 : (a : Int) ≤ (a : Int) + 1 := by omega
  have b3 : (a : Int) + 1 ≤ (s.size : Int) := by omega
  have b4 : ((a : Int) + 1).toNat = a + 1 := by omega
  have b5 : (a : Int) < (s.size : Int) := by omega
  have b6 : a + 1 ≤ s.size := ha
  have b7 : (0 : Int) ≤ (a : Int) + 1 := by omega
  have b8 : IntKind.i64.wrap ((a : Int) + 1) = (a : Int) + 1 := by simp [IntKind.wrap, IntKind.bits, IntKind.signed]; omega
  have hsl : ∀ w : World, (Instr.slice 9 (.string s) (some (.int .i64 (a : Int))) (some (.int .i64 ((a : Int) + 1))) none).run Tryz.prog w = .ok (.string ⟨#[s[a]]⟩) w := by
    intro w
    rw [run_slice_string w 9 s .i64 .i64 (a : Int) ((a : Int) + 1) Tryz.underlying9 b1 b2 b3, b4, Int.toNat_natCast, hex]
  clear h h0 hadd hA1
  go_enter Tryz.func144, Tryz.ntmps144
  go_wp2_with fail
  go_region_with (go_at_call 185; refine (HA.out _ ?_).mono ?_; (first | exact H0.out | exact H0.out.up (drw_only _)); rintro e W2 ⟨rfl, pv', hL2, hT2⟩; have hfin := cut_fin HS.out (by first | exact Below.refl _ _ | exact drw_only _) hL2 hT2 (.func (.func 98) #[] #[]); have k7 := hfin.1.cell 0; have k8 := hfin.1.frozen 0; simp only [List.getElem?_toArray, List.getElem?_cons_zero] at k7; have hst : (store ⟨W.heap.size, 0, none⟩ (.func (.func 98) #[] #[])).run Tryz.prog W2 = .ok () (W2.setCell ⟨W.heap.size, 0, none⟩ (.func (.func 98) #[] #[])) := (by rw [run_store _ _ _ _ _ rfl, k7, k8]; rfl); have HF := Lib.hid hfin.2; clear hfin hL2 hT2)
  all_goals
    go_wp2_with fail
    generalize W2.setCell ⟨W.heap.size, 0, none⟩ (.func (.func 98) #[] #[]) = W5 at *
    have k9 := HF.out.2.2
    refine bodyPost_ret (v := stepB) (by simp [results, Tryz.results144, k9, go_sem, stepB]) rfl ?_
    exact ⟨rfl, _, HF.out.1, HF.out.2.1⟩
end Go.Proofs.YthfciekhmbfmfaaGreatDoor
