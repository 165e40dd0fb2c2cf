/- attempt over slices. -/
import Derived.Test.YthfciekhmbfmfaaGreatDoorAtt
import Derived.Test.YthfciekhmbfmfaaGreatDoorParZ
import Derived.Test.YthfciekhmbfmfaaGreatDoorWriF
namespace Go.Proofs.YthfciekhmbfmfaaGreatDoor
open Go.RowKit Go

set_option maxRecDepth 100000 in
set_option maxHeartbeats 8000000 in
theorem attemptPc_any (F : FuncId) (c : Value) (w : World) (r : Option (Int × Int)) (val : Value → World → Prop) (hval : ∀ v A B, (∀ k, w.heap.size + 2 ≤ k → k < A.heap.size → B.heap[k]? = A.heap[k]?) → A.heap.size ≤ B.heap.size → val v A → val v B) (hform : ∀ v A, val v A → ∃ a n k, v = .slice a n k)
    (hent : ∀ w', (callFunc F #[c]).run Tryz.prog w' = .ok (.enter F #[c]) w')
    (hrun : ∀ w', Below w.heap.size w w' → w.heap.size + 2 ≤ w'.heap.size → Calls Tryz.prog F #[c] w' (RunQ w' val r)) :
    Calls Tryz.prog 171 #[.func (.func F) #[] #[c]] w (AtQ w (.slice none 0 0) val r) := by
  have hmf : ∀ (fn : Fn) (first cap : Array Value) (w : World), (Instr.makeFunc fn first cap).run Tryz.prog w = .ok (.func fn first cap) w := fun _ _ _ _ => rfl
  go_enter_defers Tryz.func171, Tryz.ntmps171
  have hP0 : Box ((w.alloc (.cells #[.int .i64 0] 3)).alloc (.cells #[.int .i64 0] 24)) w.heap.size #[.int .i64 0] 3 := (Box.at rfl).alloc _
  have hQ0 : Box ((w.alloc (.cells #[.int .i64 0] 3)).alloc (.cells #[.int .i64 0] 24)) (w.heap.size + 1) #[.int .i64 0] 24 := Box.at (by simp)
  have hA := below_a2 (Nat.le_refl w.heap.size) (.cells #[.int .i64 0] 3) (.cells #[.int .i64 0] 24)
  have hsz : ((w.alloc (.cells #[.int .i64 0] 3)).alloc (.cells #[.int .i64 0] 24)).heap.size = w.heap.size + 2 := by simp
  have HR := Lib.hid (And.intro hP0 (And.intro hQ0 (And.intro hA hsz)))
  have HRUN := Lib.hid hrun
  have HV := Lib.hid (And.intro hval hform)
  clear hP0 hQ0 hA hsz hrun hval hform
  go_wp2_with fail
  generalize (w.alloc (.cells #[.int .i64 0] 3)).alloc (.cells #[.int .i64 0] 24) = W3 at *
  refine (HRUN.out W3 HR.out.2.2.1 (by have := HR.out.2.2.2; omega)).mono ?_
  rintro e w1 ⟨hB1, hQ⟩
  have hP1 := HR.out.1.keep hB1
  have hQ1 := HR.out.2.1.keep hB1
  have hBw := HR.out.2.2.1.trans (hB1.mono HR.out.2.2.1.size)
  have hs1 : w.heap.size + 2 ≤ w1.heap.size := by have h1 := HR.out.2.2.2; have h2 := hB1.size; omega
  have p0 := hP1.cell 0
  have r0 := hQ1.cell 0
  have zp := hP1.frozen 0
  have zr := hQ1.frozen 0
  simp only [List.getElem?_toArray, List.getElem?_cons_succ, List.getElem?_cons_zero] at p0 r0
  cases r with
  | some ac =>
    obtain ⟨a, cc⟩ := ac
    obtain rfl : e = thrown a cc := hQ
    refine leaves_cons (f := 202) (args := #[.pointer (some ⟨w.heap.size, 0, none⟩), .pointer (some ⟨w.heap.size + 1, 0, none⟩)]) (by simp) (by simp [go_sem]) ?_
    refine (catchPc_panicking (w.heap.size) (w.heap.size + 1) a cc [] w1 _ _ p0 zp r0 zr (by omega) (by omega) (by omega) (by omega)).mono ?_
    rintro e u' w'' ⟨rfl, rfl, rfl⟩
    have hbP : Box (toldW w1 (w.heap.size) (w.heap.size + 1) a cc) w.heap.size #[.int .i64 a] _ := ((hP1.set 0 (.int .i64 a)).other (by omega) 0 (.int .i64 cc)).alloc (.cells #[.int .i64 a, .int .i64 cc] 125)
    have hbQ : Box (toldW w1 (w.heap.size) (w.heap.size + 1) a cc) (w.heap.size + 1) #[.int .i64 cc] _ := ((hQ1.other (by omega) 0 (.int .i64 a)).set 0 (.int .i64 cc)).alloc (.cells #[.int .i64 a, .int .i64 cc] 125)
    have hbel : Below w.heap.size w (toldW w1 (w.heap.size) (w.heap.size + 1) a cc) := by
      have h1 := (hBw.setCell (p := ⟨w.heap.size, 0, none⟩) (by show w.heap.size ≤ w.heap.size; omega) (.int .i64 a)).setCell (p := ⟨w.heap.size + 1, 0, none⟩) (by show w.heap.size ≤ w.heap.size + 1; omega) (.int .i64 cc)
      have h2 := h1.alloc h1.size (.cells #[.int .i64 a, .int .i64 cc] 125)
      exact ⟨h2.os, h2.tape, h2.output, h2.size, h2.block⟩
    generalize toldW w1 (w.heap.size) (w.heap.size + 1) a cc = FW at *
    have y5 := hbP.cell 0
    have y6 := hbQ.cell 0
    simp only [List.getElem?_toArray, List.getElem?_cons_succ, List.getElem?_cons_zero] at y5 y6
    refine ⟨.tuple #[.slice none 0 0, .int .i64 a, .int .i64 cc], ?_, hbel, rfl⟩
    simp [results, Tryz.results171, go_sem, y5, y6]
  | none =>
    obtain ⟨v, rfl, hv⟩ : ∃ v, e = .returned v ∧ val v w1 := hQ
    obtain ⟨sa, sn, sk, rfl⟩ := HV.out.2 _ _ hv
    have HW := Lib.hid (And.intro hv (And.intro hBw (And.intro hP1 hQ1)))
    clear hv hBw hP1 hQ1
    go_wp2_with fail
    refine leaves_cons (f := 202) (args := #[.pointer (some ⟨w.heap.size, 0, none⟩), .pointer (some ⟨w.heap.size + 1, 0, none⟩)]) (by simp) (by simp [go_sem]) ?_
    refine (catchPc_idle (w.heap.size) (w.heap.size + 1) _).mono ?_
    rintro e u' w'' ⟨rfl, rfl, rfl⟩
    obtain ⟨hv, hBw, hP1, hQ1⟩ := HW.out
    have hbP := (hP1.set 0 (.int .i64 0)).other (show w.heap.size ≠ w.heap.size + 1 by omega) 0 (.int .i64 0)
    have hbQ := (hQ1.other (show w.heap.size + 1 ≠ w.heap.size by omega) 0 (.int .i64 0)).set 0 (.int .i64 0)
    have hk : ∀ k, k ≠ w.heap.size → k ≠ w.heap.size + 1 → ((w1.setCell ⟨w.heap.size, 0, none⟩ (.int .i64 0)).setCell ⟨w.heap.size + 1, 0, none⟩ (.int .i64 0)).heap[k]? = w1.heap[k]? := fun k h1 h2 => by
      rw [Below.heap_setCell _ _ _ _ h2, Below.heap_setCell _ _ _ _ h1]
    have hszF : ((w1.setCell ⟨w.heap.size, 0, none⟩ (.int .i64 0)).setCell ⟨w.heap.size + 1, 0, none⟩ (.int .i64 0)).heap.size = w1.heap.size := by simp
    have hbel := (hBw.setCell (p := ⟨w.heap.size, 0, none⟩) (by show w.heap.size ≤ w.heap.size; omega) (.int .i64 0)).setCell (p := ⟨w.heap.size + 1, 0, none⟩) (by show w.heap.size ≤ w.heap.size + 1; omega) (.int .i64 0)
    generalize (w1.setCell ⟨w.heap.size, 0, none⟩ (.int .i64 0)).setCell ⟨w.heap.size + 1, 0, none⟩ (.int .i64 0) = FW at *
    have y5 := hbP.cell 0
    have y6 := hbQ.cell 0
    simp only [List.setIfInBounds_toArray, List.set_cons_zero, List.set_cons_succ, List.getElem?_toArray, List.getElem?_cons_succ, List.getElem?_cons_zero] at y5 y6
    refine ⟨.tuple #[.slice sa sn sk, .int .i64 0, .int .i64 0], ?_, hbel, _, rfl, HV.out.1 _ _ _ (fun k h1 _ => hk k (by omega) (by omega)) (by omega) hv⟩
    simp [results, Tryz.results171, go_sem, y5, y6]
set_option maxRecDepth 100000 in
set_option maxHeartbeats 8000000 in
theorem attemptLex_any (F : FuncId) (c : Value) (w : World) (r : Option (Int × Int)) (val : Value → World → Prop) (hval : ∀ v A B, (∀ k, w.heap.size + 2 ≤ k → k < A.heap.size → B.heap[k]? = A.heap[k]?) → A.heap.size ≤ B.heap.size → val v A → val v B) (hform : ∀ v A, val v A → ∃ a n k, v = .slice a n k)
    (hent : ∀ w', (callFunc F #[c]).run Tryz.prog w' = .ok (.enter F #[c]) w')
    (hrun : ∀ w', Below w.heap.size w w' → w.heap.size + 2 ≤ w'.heap.size → Calls Tryz.prog F #[c] w' (RunQ w' val r)) :
    Calls Tryz.prog 56 #[.func (.func F) #[] #[c]] w (AtQ w (.slice none 0 0) val r) := by
  have hmf : ∀ (fn : Fn) (first cap : Array Value) (w : World), (Instr.makeFunc fn first cap).run Tryz.prog w = .ok (.func fn first cap) w := fun _ _ _ _ => rfl
  go_enter_defers Tryz.func56, Tryz.ntmps56
  have hP0 : Box ((w.alloc (.cells #[.int .i64 0] 3)).alloc (.cells #[.int .i64 0] 24)) w.heap.size #[.int .i64 0] 3 := (Box.at rfl).alloc _
  have hQ0 : Box ((w.alloc (.cells #[.int .i64 0] 3)).alloc (.cells #[.int .i64 0] 24)) (w.heap.size + 1) #[.int .i64 0] 24 := Box.at (by simp)
  have hA := below_a2 (Nat.le_refl w.heap.size) (.cells #[.int .i64 0] 3) (.cells #[.int .i64 0] 24)
  have hsz : ((w.alloc (.cells #[.int .i64 0] 3)).alloc (.cells #[.int .i64 0] 24)).heap.size = w.heap.size + 2 := by simp
  have HR := Lib.hid (And.intro hP0 (And.intro hQ0 (And.intro hA hsz)))
  have HRUN := Lib.hid hrun
  have HV := Lib.hid (And.intro hval hform)
  clear hP0 hQ0 hA hsz hrun hval hform
  go_wp2_with fail
  generalize (w.alloc (.cells #[.int .i64 0] 3)).alloc (.cells #[.int .i64 0] 24) = W3 at *
  refine (HRUN.out W3 HR.out.2.2.1 (by have := HR.out.2.2.2; omega)).mono ?_
  rintro e w1 ⟨hB1, hQ⟩
  have hP1 := HR.out.1.keep hB1
  have hQ1 := HR.out.2.1.keep hB1
  have hBw := HR.out.2.2.1.trans (hB1.mono HR.out.2.2.1.size)
  have hs1 : w.heap.size + 2 ≤ w1.heap.size := by have h1 := HR.out.2.2.2; have h2 := hB1.size; omega
  have p0 := hP1.cell 0
  have r0 := hQ1.cell 0
  have zp := hP1.frozen 0
  have zr := hQ1.frozen 0
  simp only [List.getElem?_toArray, List.getElem?_cons_succ, List.getElem?_cons_zero] at p0 r0
  cases r with
  | some ac =>
    obtain ⟨a, cc⟩ := ac
    obtain rfl : e = thrown a cc := hQ
    refine leaves_cons (f := 96) (args := #[.pointer (some ⟨w.heap.size, 0, none⟩), .pointer (some ⟨w.heap.size + 1, 0, none⟩)]) (by simp) (by simp [go_sem]) ?_
    refine (catchLex_panicking (w.heap.size) (w.heap.size + 1) a cc [] w1 _ _ p0 zp r0 zr (by omega) (by omega) (by omega) (by omega)).mono ?_
    rintro e u' w'' ⟨rfl, rfl, rfl⟩
    have hbP : Box (toldW w1 (w.heap.size) (w.heap.size + 1) a cc) w.heap.size #[.int .i64 a] _ := ((hP1.set 0 (.int .i64 a)).other (by omega) 0 (.int .i64 cc)).alloc (.cells #[.int .i64 a, .int .i64 cc] 125)
    have hbQ : Box (toldW w1 (w.heap.size) (w.heap.size + 1) a cc) (w.heap.size + 1) #[.int .i64 cc] _ := ((hQ1.other (by omega) 0 (.int .i64 a)).set 0 (.int .i64 cc)).alloc (.cells #[.int .i64 a, .int .i64 cc] 125)
    have hbel : Below w.heap.size w (toldW w1 (w.heap.size) (w.heap.size + 1) a cc) := by
      have h1 := (hBw.setCell (p := ⟨w.heap.size, 0, none⟩) (by show w.heap.size ≤ w.heap.size; omega) (.int .i64 a)).setCell (p := ⟨w.heap.size + 1, 0, none⟩) (by show w.heap.size ≤ w.heap.size + 1; omega) (.int .i64 cc)
      have h2 := h1.alloc h1.size (.cells #[.int .i64 a, .int .i64 cc] 125)
      exact ⟨h2.os, h2.tape, h2.output, h2.size, h2.block⟩
    generalize toldW w1 (w.heap.size) (w.heap.size + 1) a cc = FW at *
    have y5 := hbP.cell 0
    have y6 := hbQ.cell 0
    simp only [List.getElem?_toArray, List.getElem?_cons_succ, List.getElem?_cons_zero] at y5 y6
    refine ⟨.tuple #[.slice none 0 0, .int .i64 a, .int .i64 cc], ?_, hbel, rfl⟩
    simp [results, Tryz.results56, go_sem, y5, y6]
  | none =>
    obtain ⟨v, rfl, hv⟩ : ∃ v, e = .returned v ∧ val v w1 := hQ
    obtain ⟨sa, sn, sk, rfl⟩ := HV.out.2 _ _ hv
    have HW := Lib.hid (And.intro hv (And.intro hBw (And.intro hP1 hQ1)))
    clear hv hBw hP1 hQ1
    go_wp2_with fail
    refine leaves_cons (f := 96) (args := #[.pointer (some ⟨w.heap.size, 0, none⟩), .pointer (some ⟨w.heap.size + 1, 0, none⟩)]) (by simp) (by simp [go_sem]) ?_
    refine (catchLex_idle (w.heap.size) (w.heap.size + 1) _).mono ?_
    rintro e u' w'' ⟨rfl, rfl, rfl⟩
    obtain ⟨hv, hBw, hP1, hQ1⟩ := HW.out
    have hbP := (hP1.set 0 (.int .i64 0)).other (show w.heap.size ≠ w.heap.size + 1 by omega) 0 (.int .i64 0)
    have hbQ := (hQ1.other (show w.heap.size + 1 ≠ w.heap.size by omega) 0 (.int .i64 0)).set 0 (.int .i64 0)
    have hk : ∀ k, k ≠ w.heap.size → k ≠ w.heap.size + 1 → ((w1.setCell ⟨w.heap.size, 0, none⟩ (.int .i64 0)).setCell ⟨w.heap.size + 1, 0, none⟩ (.int .i64 0)).heap[k]? = w1.heap[k]? := fun k h1 h2 => by
      rw [Below.heap_setCell _ _ _ _ h2, Below.heap_setCell _ _ _ _ h1]
    have hszF : ((w1.setCell ⟨w.heap.size, 0, none⟩ (.int .i64 0)).setCell ⟨w.heap.size + 1, 0, none⟩ (.int .i64 0)).heap.size = w1.heap.size := by simp
    have hbel := (hBw.setCell (p := ⟨w.heap.size, 0, none⟩) (by show w.heap.size ≤ w.heap.size; omega) (.int .i64 0)).setCell (p := ⟨w.heap.size + 1, 0, none⟩) (by show w.heap.size ≤ w.heap.size + 1; omega) (.int .i64 0)
    generalize (w1.setCell ⟨w.heap.size, 0, none⟩ (.int .i64 0)).setCell ⟨w.heap.size + 1, 0, none⟩ (.int .i64 0) = FW at *
    have y5 := hbP.cell 0
    have y6 := hbQ.cell 0
    simp only [List.setIfInBounds_toArray, List.set_cons_zero, List.set_cons_succ, List.getElem?_toArray, List.getElem?_cons_succ, List.getElem?_cons_zero] at y5 y6
    refine ⟨.tuple #[.slice sa sn sk, .int .i64 0, .int .i64 0], ?_, hbel, _, rfl, HV.out.1 _ _ _ (fun k h1 _ => hk k (by omega) (by omega)) (by omega) hv⟩
    simp [results, Tryz.results56, go_sem, y5, y6]
set_option maxRecDepth 100000 in
set_option maxHeartbeats 8000000 in
theorem attemptTs_any (F : FuncId) (c : Value) (w : World) (r : Option (Int × Int)) (val : Value → World → Prop) (hval : ∀ v A B, (∀ k, w.heap.size + 2 ≤ k → k < A.heap.size → B.heap[k]? = A.heap[k]?) → A.heap.size ≤ B.heap.size → val v A → val v B) (hform : ∀ v A, val v A → ∃ a n k, v = .slice a n k)
    (hent : ∀ w', (callFunc F #[c]).run Tryz.prog w' = .ok (.enter F #[c]) w')
    (hrun : ∀ w', Below w.heap.size w w' → w.heap.size + 2 ≤ w'.heap.size → Calls Tryz.prog F #[c] w' (RunQ w' val r)) :
    Calls Tryz.prog 71 #[.func (.func F) #[] #[c]] w (AtQ w (.slice none 0 0) val r) := by
  have hmf : ∀ (fn : Fn) (first cap : Array Value) (w : World), (Instr.makeFunc fn first cap).run Tryz.prog w = .ok (.func fn first cap) w := fun _ _ _ _ => rfl
  go_enter_defers Tryz.func71, Tryz.ntmps71
  have hP0 : Box ((w.alloc (.cells #[.int .i64 0] 3)).alloc (.cells #[.int .i64 0] 24)) w.heap.size #[.int .i64 0] 3 := (Box.at rfl).alloc _
  have hQ0 : Box ((w.alloc (.cells #[.int .i64 0] 3)).alloc (.cells #[.int .i64 0] 24)) (w.heap.size + 1) #[.int .i64 0] 24 := Box.at (by simp)
  have hA := below_a2 (Nat.le_refl w.heap.size) (.cells #[.int .i64 0] 3) (.cells #[.int .i64 0] 24)
  have hsz : ((w.alloc (.cells #[.int .i64 0] 3)).alloc (.cells #[.int .i64 0] 24)).heap.size = w.heap.size + 2 := by simp
  have HR := Lib.hid (And.intro hP0 (And.intro hQ0 (And.intro hA hsz)))
  have HRUN := Lib.hid hrun
  have HV := Lib.hid (And.intro hval hform)
  clear hP0 hQ0 hA hsz hrun hval hform
  go_wp2_with fail
  generalize (w.alloc (.cells #[.int .i64 0] 3)).alloc (.cells #[.int .i64 0] 24) = W3 at *
  refine (HRUN.out W3 HR.out.2.2.1 (by have := HR.out.2.2.2; omega)).mono ?_
  rintro e w1 ⟨hB1, hQ⟩
  have hP1 := HR.out.1.keep hB1
  have hQ1 := HR.out.2.1.keep hB1
  have hBw := HR.out.2.2.1.trans (hB1.mono HR.out.2.2.1.size)
  have hs1 : w.heap.size + 2 ≤ w1.heap.size := by have h1 := HR.out.2.2.2; have h2 := hB1.size; omega
  have p0 := hP1.cell 0
  have r0 := hQ1.cell 0
  have zp := hP1.frozen 0
  have zr := hQ1.frozen 0
  simp only [List.getElem?_toArray, List.getElem?_cons_succ, List.getElem?_cons_zero] at p0 r0
  cases r with
  | some ac =>
    obtain ⟨a, cc⟩ := ac
    obtain rfl : e = thrown a cc := hQ
    refine leaves_cons (f := 113) (args := #[.pointer (some ⟨w.heap.size, 0, none⟩), .pointer (some ⟨w.heap.size + 1, 0, none⟩)]) (by simp) (by simp [go_sem]) ?_
    refine (catchTs_panicking (w.heap.size) (w.heap.size + 1) a cc [] w1 _ _ p0 zp r0 zr (by omega) (by omega) (by omega) (by omega)).mono ?_
    rintro e u' w'' ⟨rfl, rfl, rfl⟩
    have hbP : Box (toldW w1 (w.heap.size) (w.heap.size + 1) a cc) w.heap.size #[.int .i64 a] _ := ((hP1.set 0 (.int .i64 a)).other (by omega) 0 (.int .i64 cc)).alloc (.cells #[.int .i64 a, .int .i64 cc] 125)
    have hbQ : Box (toldW w1 (w.heap.size) (w.heap.size + 1) a cc) (w.heap.size + 1) #[.int .i64 cc] _ := ((hQ1.other (by omega) 0 (.int .i64 a)).set 0 (.int .i64 cc)).alloc (.cells #[.int .i64 a, .int .i64 cc] 125)
    have hbel : Below w.heap.size w (toldW w1 (w.heap.size) (w.heap.size + 1) a cc) := by
      have h1 := (hBw.setCell (p := ⟨w.heap.size, 0, none⟩) (by show w.heap.size ≤ w.heap.size; omega) (.int .i64 a)).setCell (p := ⟨w.heap.size + 1, 0, none⟩) (by show w.heap.size ≤ w.heap.size + 1; omega) (.int .i64 cc)
      have h2 := h1.alloc h1.size (.cells #[.int .i64 a, .int .i64 cc] 125)
      exact ⟨h2.os, h2.tape, h2.output, h2.size, h2.block⟩
    generalize toldW w1 (w.heap.size) (w.heap.size + 1) a cc = FW at *
    have y5 := hbP.cell 0
    have y6 := hbQ.cell 0
    simp only [List.getElem?_toArray, List.getElem?_cons_succ, List.getElem?_cons_zero] at y5 y6
    refine ⟨.tuple #[.slice none 0 0, .int .i64 a, .int .i64 cc], ?_, hbel, rfl⟩
    simp [results, Tryz.results71, go_sem, y5, y6]
  | none =>
    obtain ⟨v, rfl, hv⟩ : ∃ v, e = .returned v ∧ val v w1 := hQ
    obtain ⟨sa, sn, sk, rfl⟩ := HV.out.2 _ _ hv
    have HW := Lib.hid (And.intro hv (And.intro hBw (And.intro hP1 hQ1)))
    clear hv hBw hP1 hQ1
    go_wp2_with fail
    refine leaves_cons (f := 113) (args := #[.pointer (some ⟨w.heap.size, 0, none⟩), .pointer (some ⟨w.heap.size + 1, 0, none⟩)]) (by simp) (by simp [go_sem]) ?_
    refine (catchTs_idle (w.heap.size) (w.heap.size + 1) _).mono ?_
    rintro e u' w'' ⟨rfl, rfl, rfl⟩
    obtain ⟨hv, hBw, hP1, hQ1⟩ := HW.out
    have hbP := (hP1.set 0 (.int .i64 0)).other (show w.heap.size ≠ w.heap.size + 1 by omega) 0 (.int .i64 0)
    have hbQ := (hQ1.other (show w.heap.size + 1 ≠ w.heap.size by omega) 0 (.int .i64 0)).set 0 (.int .i64 0)
    have hk : ∀ k, k ≠ w.heap.size → k ≠ w.heap.size + 1 → ((w1.setCell ⟨w.heap.size, 0, none⟩ (.int .i64 0)).setCell ⟨w.heap.size + 1, 0, none⟩ (.int .i64 0)).heap[k]? = w1.heap[k]? := fun k h1 h2 => by
      rw [Below.heap_setCell _ _ _ _ h2, Below.heap_setCell _ _ _ _ h1]
    have hszF : ((w1.setCell ⟨w.heap.size, 0, none⟩ (.int .i64 0)).setCell ⟨w.heap.size + 1, 0, none⟩ (.int .i64 0)).heap.size = w1.heap.size := by simp
    have hbel := (hBw.setCell (p := ⟨w.heap.size, 0, none⟩) (by show w.heap.size ≤ w.heap.size; omega) (.int .i64 0)).setCell (p := ⟨w.heap.size + 1, 0, none⟩) (by show w.heap.size ≤ w.heap.size + 1; omega) (.int .i64 0)
    generalize (w1.setCell ⟨w.heap.size, 0, none⟩ (.int .i64 0)).setCell ⟨w.heap.size + 1, 0, none⟩ (.int .i64 0) = FW at *
    have y5 := hbP.cell 0
    have y6 := hbQ.cell 0
    simp only [List.setIfInBounds_toArray, List.set_cons_zero, List.set_cons_succ, List.getElem?_toArray, List.getElem?_cons_succ, List.getElem?_cons_zero] at y5 y6
    refine ⟨.tuple #[.slice sa sn sk, .int .i64 0, .int .i64 0], ?_, hbel, _, rfl, HV.out.1 _ _ _ (fun k h1 _ => hk k (by omega) (by omega)) (by omega) hv⟩
    simp [results, Tryz.results71, go_sem, y5, y6]
end Go.Proofs.YthfciekhmbfmfaaGreatDoor

/- The one lexeme that a text is; names as structures are written; atoms. -/
namespace Go.Proofs.YthfciekhmbfmfaaGreatDoor
open Go.RowKit Go Go.Maps

/-- The lexemes of a text, in a row of their own. -/
def pcsV (lo : Nat) (s : ByteArray) (v : Value) (W : World) : Prop := ∃ xs, lexR s = .ok xs ∧ OwnR 78 3 pcV lo xs v W
theorem pcsV.far {lo : Nat} {s : ByteArray} {v : Value} {A B : World} (hk : ∀ k, lo ≤ k → k < A.heap.size → B.heap[k]? = A.heap[k]?) (h : pcsV lo s v A) : pcsV lo s v B := by
  obtain ⟨xs, h1, h2⟩ := h
  exact ⟨xs, h1, h2.block fun b hb => by
    obtain ⟨h5, c, fr, h6⟩ := own_typed h2.own hb
    exact hk b h5 (Array.getElem?_eq_some_iff.1 h6).1⟩
set_option maxRecDepth 100000 in
set_option maxHeartbeats 4000000 in
theorem onlyC_any (T : Nat) (s : ByteArray) (W : World) (hT : W.cell? ⟨T, 0, none⟩ = some (.string s)) (hTl : T < W.heap.size) (hs : s.size ≤ 1000000) (mm : Int) (hmx : W.cell? ⟨1, 0, none⟩ = some (.int .i64 mm)) (lo : Nat) (hlo : lo ≤ W.heap.size) :
    Calls Tryz.prog 172 #[.pointer (some ⟨T, 0, none⟩)] W (RunQ W (pcsV lo s) (errO (lexR s))) := by
  have HN := Lib.hid (cutR_any s W hs mm hmx)
  clear hmx
  go_enter Tryz.func172, Tryz.ntmps172
  go_wp2_with fail
  refine (HN.out).mono ?_
  rintro e w1 ⟨hB1, hQ1⟩
  cases hl : lexR s with
  | error x =>
    rw [hl] at hQ1
    obtain rfl : e = thrown x.1 x.2 := hQ1
    refine And.intro rfl ?_
    exact ⟨hB1, rfl⟩
  | ok xs =>
    rw [hl] at hQ1
    obtain ⟨pv, rfl, hown⟩ := hQ1
    have HW := Lib.hid (And.intro hB1 (And.intro hown hl))
    clear hB1 hown hl
    go_wp2_with fail
    go_ret
    refine ⟨HW.out.1, ?_⟩
    rw [HW.out.2.2]
    exact ⟨_, rfl, xs, HW.out.2.2, HW.out.2.1.lower hlo⟩
theorem only_of (s : ByteArray) : onlyF s.data.toList = match lexR s with | .ok [x] => some x.t | _ => none := by
  have hd : s.data.toList.length = s.size := by rw [Array.length_toList]; rfl
  unfold onlyF lexR
  rw [hd]
  by_cases h : s.size > 20000
  · rw [if_pos h, if_pos h]
  · rw [if_neg h, if_neg h]
    cases hl : lexL s.data.toList with
    | error p => rfl
    | ok xs =>
      match xs with
      | [] => rfl
      | [x] => rfl
      | x :: y :: r =>
        simp only
        split
        · rename_i h2
          split at h2 <;> cases h2
        · rfl
set_option maxRecDepth 100000 in
set_option maxHeartbeats 8000000 in
theorem only_any (s : ByteArray) (w : World) (hs : s.size ≤ 1000000) (mm : Int) (hmx : w.cell? ⟨1, 0, none⟩ = some (.int .i64 mm)) (hml : 1 < w.heap.size) :
    Calls Tryz.prog 121 #[.string s] w fun e w' => e = .returned (tokO (onlyF s.data.toList)) ∧ Below w.heap.size w w' := by
  have hmf : ∀ (fn : Fn) (first cap : Array Value) (w : World), (Instr.makeFunc fn first cap).run Tryz.prog w = .ok (.func fn first cap) w := fun _ _ _ _ => rfl
  have hent : ∀ args w, (callFunc 172 args).run Tryz.prog w = .ok (.enter 172 args) w := enters_of Tryz.func172 (by kernel_rfl) rfl
  have hT0 : Box (w.alloc (.cells #[.string s] 9)) w.heap.size #[.string s] 9 := Box.at rfl
  have hA := below_a1 (Nat.le_refl w.heap.size) (.cells #[.string s] 9)
  have H0 := Lib.hid (And.intro hT0 hA)
  have HM := Lib.hid (And.intro hmx (And.intro hml hent))
  clear hT0 hA hmx hml hent
  go_enter Tryz.func121, Tryz.ntmps121
  go_wp2_with fail
  generalize w.alloc (.cells #[.string s] 9) = W0 at *
  obtain ⟨hT0, hA⟩ := H0.out
  refine (attemptPc_any 172 (.pointer (some ⟨w.heap.size, 0, none⟩)) W0 (errO (lexR s)) (pcsV (W0.heap.size + 2) s) (fun v A B hk _ h => pcsV.far hk h) (fun v A h => by
    obtain ⟨xs, h1, h2⟩ := h
    obtain ⟨na, nc, rfl⟩ := h2.slice
    exact ⟨na, _, nc, rfl⟩) (fun w' => HM.out.2.2 _ w') (fun w' hB hl => onlyC_any w.heap.size s w' (by have h1 := (hT0.keep hB).cell 0; simpa using h1) (by have := (hT0.keep hB).lt; exact this) hs mm (by
      have hB2 := hA.trans (hB.mono hA.size)
      rw [hB2.cell (p := ⟨1, 0, none⟩) HM.out.2.1]
      exact HM.out.1) (W0.heap.size + 2) hl)).mono ?_
  rintro e w1 ⟨hB1, hQ⟩
  have hBw := hA.trans (hB1.mono hA.size)
  have hof := only_of s
  cases hp : lexR s with
  | error x =>
    obtain ⟨xa, xc⟩ := x
    rw [hp] at hQ hof
    obtain rfl : e = .returned (.tuple #[.slice none 0 0, .int .i64 xa, .int .i64 xc]) := hQ
    have HW := Lib.hid (And.intro hBw hof)
    clear hBw hof hB1 hp hT0 hA
    go_wp2_with fail
    go_ret
    exact ⟨by rw [HW.out.2]; rfl, HW.out.1⟩
  | ok xs =>
    rw [hp] at hQ hof
    obtain ⟨v, rfl, xs2, h1, hown⟩ := hQ
    rw [hp] at h1
    cases h1
    have hB3 : W0.heap.size ≤ w1.heap.size := hB1.size
    match xs, hown, hof with
    | [], hown, hof =>
      obtain ⟨na, nc, rfl⟩ := hown.slice
      have HW := Lib.hid (And.intro hBw hof)
      clear hBw hof hB1 hp hT0 hA hown
      go_wp2_with fail
      go_ret
      exact ⟨by rw [HW.out.2]; rfl, HW.out.1⟩
    | [x], hown, hof =>
      obtain ⟨g, nc, rfl, _, hgl⟩ := hown.own.form (by simp)
      have c0 : w1.cell? ⟨g, 0, none⟩ = some (tokV x.t) := hown.cells rfl (j := 0) (by simp [pcV])
      obtain ⟨T, u, hTu⟩ := tokV_iface x.t
      rw [hTu] at c0
      have HW := Lib.hid (And.intro hBw (And.intro hof hTu))
      clear hBw hof hB1 hp hT0 hA hown hTu
      go_wp2_with fail
      go_ret
      exact ⟨by rw [HW.out.2.1]; exact congrArg Ending.returned HW.out.2.2.symm, HW.out.1⟩
    | x :: y :: r, hown, hof =>
      obtain ⟨na, nc, rfl⟩ := hown.slice
      have hne : ((((x :: y :: r).length : Nat) : Int) == 1) = false := by simp only [List.length_cons, beq_eq_false_iff_ne]; omega
      have HW := Lib.hid (And.intro hBw hof)
      clear hBw hof hB1 hp hT0 hA hown
      generalize (x :: y :: r).length = m at *
      go_wp2_with fail
      go_ret
      exact ⟨by rw [HW.out.2]; rfl, HW.out.1⟩
/-- What a token asserted to be a name says. -/
def tS : Option Tok → List UInt8
  | some t => if t.k = .name then t.s else []
  | none => []
theorem ta_name (t : Option Tok) (w : World) : (Instr.typeAssert (tokO t) 76 134 true).run Tryz.prog w = .ok (.tuple #[sV (tS t), .bool (taB .name t)]) w := by
  have h := ta_any .name t w
  have e : taV .name t = sV (tS t) := by
    cases t with
    | none => rfl
    | some t =>
      obtain ⟨k, s, n⟩ := t
      cases k <;> rfl
  rw [e] at h
  exact h
theorem nameF_of (l : List UInt8) : nameF l = if taB .name (onlyF l) = true ∧ tS (onlyF l) = l then l else qtL l ++ [39] := by
  unfold nameF
  cases onlyF l with
  | none => rfl
  | some t =>
    obtain ⟨k, s, n⟩ := t
    cases k <;> simp [taB, tS]
set_option maxRecDepth 100000 in
set_option maxHeartbeats 4000000 in
theorem nameText_any (s : ByteArray) (w : World) (hs : s.size ≤ 1000000) (mm : Int) (hmx : w.cell? ⟨1, 0, none⟩ = some (.int .i64 mm)) (hml : 1 < w.heap.size) :
    Calls Tryz.prog 129 #[.string s] w fun e w' => e = .returned (.string ⟨(nameF s.data.toList).toArray⟩) ∧ Below w.heap.size w w' := by
  have HO := Lib.hid (only_any s w hs mm hmx hml)
  have HQ := Lib.hid (fun w => quote_any s hs w)
  have hta := fun w => ta_name (onlyF s.data.toList) w
  have hnf := nameF_of s.data.toList
  generalize tokO (onlyF s.data.toList) = u at *
  generalize taB .name (onlyF s.data.toList) = b at *
  generalize tS (onlyF s.data.toList) = x at *
  clear hmx hml
  cases b with
  | false =>
    have HN : Hid (nameF s.data.toList = qtL s.data.toList ++ [39]) := by rw [Hid, hnf]; simp
    clear hnf
    go_enter Tryz.func129, Tryz.ntmps129
    go_wp2_with fail
    refine (HO.out).mono ?_
    rintro e w1 ⟨rfl, hB1⟩
    have H1 := Lib.hid hB1
    clear hB1
    go_wp2_with fail
    refine (HQ.out _).mono ?_
    rintro e w2 ⟨rfl, hB2⟩
    have H2 := Lib.hid (H1.out.trans (hB2.mono H1.out.size))
    clear hB2
    go_wp2_with fail
    go_ret
    exact ⟨by rw [HN.out]; rfl, H2.out⟩
  | true =>
    by_cases hx : x = s.data.toList
    · have HN : Hid (nameF s.data.toList = s.data.toList) := by rw [Hid, hnf]; simp [hx]
      have hse : (⟨x.toArray⟩ : ByteArray) = s := by rw [hx]
      simp only [sV] at hta
      rw [hse] at hta
      clear hnf hx hse
      go_enter Tryz.func129, Tryz.ntmps129
      go_wp2_with fail
      refine (HO.out).mono ?_
      rintro e w1 ⟨rfl, hB1⟩
      have H1 := Lib.hid hB1
      clear hB1
      go_wp2_with fail
      go_ret
      exact ⟨by rw [HN.out]; rfl, H1.out⟩
    · have HN : Hid (nameF s.data.toList = qtL s.data.toList ++ [39]) := by rw [Hid, hnf]; simp [hx]
      have hne : ((⟨x.toArray⟩ : ByteArray).toList == s.toList) = false := bytes_ne (fun e => hx (by rw [← e]))
      have hne2 : (x == s.toList) = false := by rw [bytes_toList]; simpa using hx
      simp only [sV] at hta
      clear hnf hx
      go_enter Tryz.func129, Tryz.ntmps129
      go_wp2_with fail
      refine (HO.out).mono ?_
      rintro e w1 ⟨rfl, hB1⟩
      have H1 := Lib.hid hB1
      clear hB1
      go_wp2_with fail
      refine (HQ.out _).mono ?_
      rintro e w2 ⟨rfl, hB2⟩
      have H2 := Lib.hid (H1.out.trans (hB2.mono H1.out.size))
      clear hB2
      go_wp2_with fail
      go_ret
      exact ⟨by rw [HN.out]; rfl, H2.out⟩
theorem op_field0 (x y z : Int) (w : World) : (Instr.field 48 (.agg #[.int .i64 x, .int .i64 y, .int .i64 z]) 0).run Tryz.prog w = .ok (.int .i64 x) w := by kernel_rfl
set_option maxRecDepth 100000 in
set_option maxHeartbeats 4000000 in
/-- Is a name that of an operator? -/
theorem opHas_any {lo b1 b2 : Nat} (s : ByteArray) (hs : s.size ≤ maxLen) (W : World) (h : OpsTwo lo W b1 b2) :
    Calls Tryz.prog 127 #[.agg #[.map (some b1), .map (some b2)], .string s] W fun e W' => e = .returned (.bool (isOp s.data.toList)) ∧ Below W.heap.size W W' := by
  have hA := below_a1 (Nat.le_refl W.heap.size) (.cells #[.map (some b1), .map (some b2)] 113)
  have hbx : Box (W.alloc (.cells #[.map (some b1), .map (some b2)] 113)) W.heap.size #[.map (some b1), .map (some b2)] 113 := Box.at rfl
  obtain ⟨o1, o2, o3, ⟨m1, o4⟩, m2, o5⟩ := h
  have hr1 := (o4.block (Below.heap_alloc W (.cells #[.map (some b1), .map (some b2)] 113) b1 o4.lt)).look s hs
  have hr2 := (o5.block (Below.heap_alloc W (.cells #[.map (some b1), .map (some b2)] 113) b2 o5.lt)).look s hs
  rw [show (tabF opsI s.data.toList).getD (0, 0, 0) = infV s from rfl] at hr1
  rw [show (tabF opsP s.data.toList).getD (0, 0, 0) = preV s from rfl] at hr2
  have HD : Hid (isOp s.data.toList = (decide ((infV s).1 > 0) || decide ((preV s).1 > 0))) := rfl
  obtain ⟨⟨x, y, z⟩, ho⟩ : ∃ o, infV s = o := ⟨_, rfl⟩
  obtain ⟨⟨x', y', z'⟩, ho'⟩ : ∃ o, preV s = o := ⟨_, rfl⟩
  rw [ho] at hr1 HD
  rw [ho'] at hr2 HD
  simp only [opV] at hr1 hr2
  have hf := op_field0
  have H0 := Lib.hid (And.intro hA hbx)
  have c0 := hbx.cell 0
  have c1 := hbx.cell 1
  simp only [List.getElem?_toArray, List.getElem?_cons_succ, List.getElem?_cons_zero] at c0 c1
  have l0 := hbx.lt
  clear hA hbx o1 o2 o3 o4 o5 ho ho'
  by_cases hx : x > 0
  · have HX : Hid (isOp s.data.toList = true) := by rw [Hid, HD.out]; simp; exact .inl hx
    clear HD
    go_enter Tryz.func127, Tryz.ntmps127
    go_wp2_with fail
    go_ret
    exact ⟨retB HX.out, H0.out.1⟩
  · by_cases hx' : x' > 0
    · have HX : Hid (isOp s.data.toList = true) := by rw [Hid, HD.out]; simp; exact .inr hx'
      clear HD
      go_enter Tryz.func127, Tryz.ntmps127
      go_wp2_with fail
      go_ret
      exact ⟨retB HX.out, H0.out.1⟩
    · have HX : Hid (isOp s.data.toList = false) := by rw [Hid, HD.out]; simp; omega
      clear HD
      go_enter Tryz.func127, Tryz.ntmps127
      go_wp2_with fail
      go_ret
      exact ⟨retB HX.out, H0.out.1⟩
end Go.Proofs.YthfciekhmbfmfaaGreatDoor
