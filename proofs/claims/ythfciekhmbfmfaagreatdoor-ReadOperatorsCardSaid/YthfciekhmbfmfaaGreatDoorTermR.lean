/- read.Term: the term that a text is. -/
import Derived.Test.YthfciekhmbfmfaaGreatDoorParZ
import Derived.Test.YthfciekhmbfmfaaGreatDoorWriM
namespace Go.Proofs.YthfciekhmbfmfaaGreatDoor
open Go.RowKit Go Go.Maps

theorem rdV.far {lo : Nat} {s : ByteArray} {v : Value} {A B : World} (hk : ∀ k, lo ≤ k → k < A.heap.size → B.heap[k]? = A.heap[k]?) (h : rdV lo s v A) : rdV lo s v B := by
  obtain ⟨t, ns, a0, a1, a2, a3, am, a4, nv, h1, h2, h3, h4⟩ := h
  exact ⟨t, ns, a0, a1, a2, a3, am, a4, nv, h1, h2, h3.far hk, h4.block fun b hb => by
    obtain ⟨h5, c, fr, h6⟩ := own_typed h4.own hb
    exact hk b h5 (Array.getElem?_eq_some_iff.1 h6).1⟩
/-- What Term hands back. -/
def TermQ (s : ByteArray) (w : World) (e : Ending) (w' : World) : Prop :=
  Below w.heap.size w w' ∧ match parR s with
    | .error x => e = .returned (.tuple #[.agg #[.int .i64 0, .int .i64 0, .string ⟨#[]⟩, .slice none 0 0], .slice none 0 0, .int .i64 x.1, .int .i64 x.2])
    | .ok (t, ns) => ∃ v nv, e = .returned (.tuple #[v, nv, .int .i64 0, .int .i64 0]) ∧ tval w.heap.size t v w' ∧ OwnR 9 1 strV w.heap.size ns nv w'
set_option maxRecDepth 100000 in
set_option maxHeartbeats 8000000 in
theorem readTerm_any (s : ByteArray) (w : World) (hs : s.size ≤ 1000000) (mm : Int) (hmx : w.cell? ⟨1, 0, none⟩ = some (.int .i64 mm)) (hml : 1 < w.heap.size) :
    Calls Tryz.prog 21 #[.string s] w (TermQ s w) := by
  have hmf : ∀ (fn : Fn) (first cap : Array Value) (w : World), (Instr.makeFunc fn first cap).run Tryz.prog w = .ok (.func fn first cap) w := fun _ _ _ _ => rfl
  have hent : ∀ args w, (callFunc 63 args).run Tryz.prog w = .ok (.enter 63 args) w := enters_of Tryz.func63 (by kernel_rfl) rfl
  have hT0 : Box ((w.alloc (.cells #[.string s] 9)).alloc (.cells #[.int .i64 0, .int .i64 0, .string ⟨#[]⟩, .slice none 0 0] 31)) w.heap.size #[.string s] 9 := (Box.at rfl).alloc _
  have hR0 : Box ((w.alloc (.cells #[.string s] 9)).alloc (.cells #[.int .i64 0, .int .i64 0, .string ⟨#[]⟩, .slice none 0 0] 31)) (w.heap.size + 1) #[.int .i64 0, .int .i64 0, .string ⟨#[]⟩, .slice none 0 0] 31 := Box.at (by simp)
  have hA := below_a2 (Nat.le_refl w.heap.size) (.cells #[.string s] 9) (.cells #[.int .i64 0, .int .i64 0, .string ⟨#[]⟩, .slice none 0 0] 31)
  have hsz : ((w.alloc (.cells #[.string s] 9)).alloc (.cells #[.int .i64 0, .int .i64 0, .string ⟨#[]⟩, .slice none 0 0] 31)).heap.size = w.heap.size + 2 := by simp
  have H0 := Lib.hid (And.intro hT0 (And.intro hR0 (And.intro hA hsz)))
  have HM := Lib.hid (And.intro hmx (And.intro hml hent))
  clear hT0 hR0 hA hsz hmx hml hent
  go_enter Tryz.func21, Tryz.ntmps21
  go_wp2_with fail
  generalize (w.alloc (.cells #[.string s] 9)).alloc (.cells #[.int .i64 0, .int .i64 0, .string ⟨#[]⟩, .slice none 0 0] 31) = W0 at *
  obtain ⟨hT0, hR0, hA, hsz⟩ := H0.out
  refine (attemptRd_any 63 (.pointer (some ⟨w.heap.size, 0, none⟩)) W0 (errO (parR s)) (rdV (W0.heap.size + 3) s) (fun v A B hk _ h => rdV.far hk h) (fun v A h => by
    obtain ⟨t, ns, a0, a1, a2, a3, am, a4, nv, h1, h2, h3, h4⟩ := h
    obtain ⟨na, nc, rfl⟩ := h4.slice
    exact ⟨a0, a1, a2, a3, am, a4, na, _, nc, h2⟩) (fun w' => HM.out.2.2 _ w') (fun w' hB hl => termC_any w.heap.size s w' (by have h1 := (hT0.keep hB).cell 0; simpa using h1) (by have := (hT0.keep hB).lt; exact this) hs mm (by
      have hB2 := hA.trans (hB.mono hA.size)
      rw [hB2.cell (p := ⟨1, 0, none⟩) HM.out.2.1]
      exact HM.out.1) (by have h1 := HM.out.2.1; have h2 := hA.size; have h3 := hB.size; omega) (W0.heap.size + 3) hl)).mono ?_
  rintro e w1 ⟨hB1, hQ⟩
  have hR1 := hR0.keep hB1
  have hBw := hA.trans (hB1.mono hA.size)
  cases hp : parR s with
  | error x =>
    obtain ⟨xa, xc⟩ := x
    rw [hp] at hQ
    obtain rfl : e = .returned (.tuple #[.agg #[.int .i64 0, .int .i64 0, .string ⟨#[]⟩, .slice none 0 0, .slice none 0 0], .int .i64 xa, .int .i64 xc]) := hQ
    have HP := Lib.hid hp
    have HW := Lib.hid (And.intro hBw hR1)
    have q0 := hR1.cell 0
    have q1 := hR1.cell 1
    have q2 := hR1.cell 2
    have q3 := hR1.cell 3
    have z0 := hR1.frozen 0
    have z1 := hR1.frozen 1
    have z2 := hR1.frozen 2
    have z3 := hR1.frozen 3
    have l1 := hR1.lt
    simp only [List.getElem?_toArray, List.getElem?_cons_succ, List.getElem?_cons_zero] at q0 q1 q2 q3
    have hA2 : Below w1.heap.size w1 (w1.alloc (.cells #[.int .i64 0, .int .i64 0, .string ⟨#[]⟩, .slice none 0 0, .slice none 0 0] 86)) := below_a1 (Nat.le_refl _) _
    have hbk : Box (w1.alloc (.cells #[.int .i64 0, .int .i64 0, .string ⟨#[]⟩, .slice none 0 0, .slice none 0 0] 86)) w1.heap.size #[.int .i64 0, .int .i64 0, .string ⟨#[]⟩, .slice none 0 0, .slice none 0 0] 86 := World.alloc_heap_new _ _
    have hR2 := hR1.keep hA2
    have r0 := hR2.cell 0
    have r1 := hR2.cell 1
    have r2 := hR2.cell 2
    have r3 := hR2.cell 3
    have s0 := hR2.frozen 0
    have s1 := hR2.frozen 1
    have s2 := hR2.frozen 2
    have s3 := hR2.frozen 3
    have b0 := hbk.cell 0
    have b1 := hbk.cell 1
    have b2 := hbk.cell 2
    have b3 := hbk.cell 3
    have b4 := hbk.cell 4
    simp only [List.getElem?_toArray, List.getElem?_cons_succ, List.getElem?_cons_zero] at r0 r1 r2 r3 b0 b1 b2 b3 b4
    clear hR1 hBw hB1 hT0 hR0 hA hsz hp hA2 hbk hR2
    go_wp2_with fail
    go_region
    go_wp2_with fail
    have hbF : Box (((((w1.setCell ⟨w.heap.size + 1, 0, none⟩ (.int .i64 0)).setCell ⟨w.heap.size + 1, 1, none⟩ (.int .i64 0)).setCell ⟨w.heap.size + 1, 2, none⟩ (.string ⟨#[]⟩)).setCell ⟨w.heap.size + 1, 3, none⟩ (.slice none 0 0))) (w.heap.size + 1) #[.int .i64 0, .int .i64 0, .string ⟨#[]⟩, .slice none 0 0] 31 := HW.out.2.set4 (.int .i64 0) (.int .i64 0) (.string ⟨#[]⟩) (.slice none 0 0)
    have hbel := (show Below w.heap.size w (((((w1.setCell ⟨w.heap.size + 1, 0, none⟩ (.int .i64 0)).setCell ⟨w.heap.size + 1, 1, none⟩ (.int .i64 0)).setCell ⟨w.heap.size + 1, 2, none⟩ (.string ⟨#[]⟩)).setCell ⟨w.heap.size + 1, 3, none⟩ (.slice none 0 0))) from ((((HW.out.1.setCell (p := ⟨w.heap.size + 1, 0, none⟩) (by show w.heap.size ≤ w.heap.size + 1; omega) (.int .i64 0)).setCell (p := ⟨w.heap.size + 1, 1, none⟩) (by show w.heap.size ≤ w.heap.size + 1; omega) (.int .i64 0)).setCell (p := ⟨w.heap.size + 1, 2, none⟩) (by show w.heap.size ≤ w.heap.size + 1; omega) (.string ⟨#[]⟩)).setCell (p := ⟨w.heap.size + 1, 3, none⟩) (by show w.heap.size ≤ w.heap.size + 1; omega) (.slice none 0 0)))
    have hk : ∀ k, k < w1.heap.size → k ≠ w.heap.size + 1 → (((((w1.setCell ⟨w.heap.size + 1, 0, none⟩ (.int .i64 0)).setCell ⟨w.heap.size + 1, 1, none⟩ (.int .i64 0)).setCell ⟨w.heap.size + 1, 2, none⟩ (.string ⟨#[]⟩)).setCell ⟨w.heap.size + 1, 3, none⟩ (.slice none 0 0))).heap[k]? = w1.heap[k]? := fun k _ h => set4_block _ _ _ _ _ _ _ h
    have hs4 : (((((w1.setCell ⟨w.heap.size + 1, 0, none⟩ (.int .i64 0)).setCell ⟨w.heap.size + 1, 1, none⟩ (.int .i64 0)).setCell ⟨w.heap.size + 1, 2, none⟩ (.string ⟨#[]⟩)).setCell ⟨w.heap.size + 1, 3, none⟩ (.slice none 0 0))).heap.size = w1.heap.size := by simp
    generalize ((((w1.setCell ⟨w.heap.size + 1, 0, none⟩ (.int .i64 0)).setCell ⟨w.heap.size + 1, 1, none⟩ (.int .i64 0)).setCell ⟨w.heap.size + 1, 2, none⟩ (.string ⟨#[]⟩)).setCell ⟨w.heap.size + 1, 3, none⟩ (.slice none 0 0)) = W4 at *
    have hbel2 := (hbel.alloc hbel.size (.cells #[.int .i64 0, .int .i64 0, .string ⟨#[]⟩, .slice none 0 0, .slice none 0 0] 86)).drew
    have hbF2 : Box (W4.alloc (.cells #[.int .i64 0, .int .i64 0, .string ⟨#[]⟩, .slice none 0 0, .slice none 0 0] 86)).drew (w.heap.size + 1) #[.int .i64 0, .int .i64 0, .string ⟨#[]⟩, .slice none 0 0] 31 := hbF.alloc _
    have hk2 : ∀ k, k < w1.heap.size → k ≠ w.heap.size + 1 → (W4.alloc (.cells #[.int .i64 0, .int .i64 0, .string ⟨#[]⟩, .slice none 0 0, .slice none 0 0] 86)).drew.heap[k]? = w1.heap[k]? := fun k h1 h2 => (Below.heap_alloc W4 _ k (by omega)).trans (hk k h1 h2)
    generalize (W4.alloc (.cells #[.int .i64 0, .int .i64 0, .string ⟨#[]⟩, .slice none 0 0, .slice none 0 0] 86)).drew = FW at *
    have y0 := hbF2.cell 0
    have y1 := hbF2.cell 1
    have y2 := hbF2.cell 2
    have y3 := hbF2.cell 3
    simp only [List.getElem?_toArray, List.getElem?_cons_succ, List.getElem?_cons_zero] at y0 y1 y2 y3
    refine bodyPost_ret (v := .tuple #[.agg #[.int .i64 0, .int .i64 0, .string ⟨#[]⟩, .slice none 0 0], .slice none 0 0, .int .i64 xa, .int .i64 xc]) (by simp [results, Tryz.results21, go_sem, y0, y1, y2, y3]) rfl ⟨hbel2, ?_⟩
    rw [HP.out]
  | ok x =>
    obtain ⟨t, ns⟩ := x
    rw [hp] at hQ
    obtain ⟨v, rfl, t', ns', a0, a1, a2, a3, am, a4, nv, hp2, rfl, htv, hnm⟩ := hQ
    rw [hp] at hp2
    cases hp2
    obtain ⟨na, nc, rfl⟩ := hnm.slice
    have HP := Lib.hid hp
    have HW := Lib.hid (And.intro hBw hR1)
    have HV := Lib.hid (And.intro htv (And.intro hnm hsz))
    clear htv hnm
    have q0 := hR1.cell 0
    have q1 := hR1.cell 1
    have q2 := hR1.cell 2
    have q3 := hR1.cell 3
    have z0 := hR1.frozen 0
    have z1 := hR1.frozen 1
    have z2 := hR1.frozen 2
    have z3 := hR1.frozen 3
    have l1 := hR1.lt
    simp only [List.getElem?_toArray, List.getElem?_cons_succ, List.getElem?_cons_zero] at q0 q1 q2 q3
    have hA2 : Below w1.heap.size w1 (w1.alloc (.cells #[.int .i64 a0, .int .i64 a1, .string a2, .slice a3 am a4, .slice na ns.length nc] 86)) := below_a1 (Nat.le_refl _) _
    have hbk : Box (w1.alloc (.cells #[.int .i64 a0, .int .i64 a1, .string a2, .slice a3 am a4, .slice na ns.length nc] 86)) w1.heap.size #[.int .i64 a0, .int .i64 a1, .string a2, .slice a3 am a4, .slice na ns.length nc] 86 := World.alloc_heap_new _ _
    have hR2 := hR1.keep hA2
    have r0 := hR2.cell 0
    have r1 := hR2.cell 1
    have r2 := hR2.cell 2
    have r3 := hR2.cell 3
    have s0 := hR2.frozen 0
    have s1 := hR2.frozen 1
    have s2 := hR2.frozen 2
    have s3 := hR2.frozen 3
    have b0 := hbk.cell 0
    have b1 := hbk.cell 1
    have b2 := hbk.cell 2
    have b3 := hbk.cell 3
    have b4 := hbk.cell 4
    simp only [List.getElem?_toArray, List.getElem?_cons_succ, List.getElem?_cons_zero] at r0 r1 r2 r3 b0 b1 b2 b3 b4
    clear hR1 hBw hB1 hT0 hR0 hA hsz hp hA2 hbk hR2
    go_wp2_with fail
    go_region
    go_wp2_with fail
    have hbF : Box (((((w1.setCell ⟨w.heap.size + 1, 0, none⟩ (.int .i64 a0)).setCell ⟨w.heap.size + 1, 1, none⟩ (.int .i64 a1)).setCell ⟨w.heap.size + 1, 2, none⟩ (.string a2)).setCell ⟨w.heap.size + 1, 3, none⟩ (.slice a3 am a4))) (w.heap.size + 1) #[.int .i64 a0, .int .i64 a1, .string a2, .slice a3 am a4] 31 := HW.out.2.set4 (.int .i64 a0) (.int .i64 a1) (.string a2) (.slice a3 am a4)
    have hbel := (show Below w.heap.size w (((((w1.setCell ⟨w.heap.size + 1, 0, none⟩ (.int .i64 a0)).setCell ⟨w.heap.size + 1, 1, none⟩ (.int .i64 a1)).setCell ⟨w.heap.size + 1, 2, none⟩ (.string a2)).setCell ⟨w.heap.size + 1, 3, none⟩ (.slice a3 am a4))) from ((((HW.out.1.setCell (p := ⟨w.heap.size + 1, 0, none⟩) (by show w.heap.size ≤ w.heap.size + 1; omega) (.int .i64 a0)).setCell (p := ⟨w.heap.size + 1, 1, none⟩) (by show w.heap.size ≤ w.heap.size + 1; omega) (.int .i64 a1)).setCell (p := ⟨w.heap.size + 1, 2, none⟩) (by show w.heap.size ≤ w.heap.size + 1; omega) (.string a2)).setCell (p := ⟨w.heap.size + 1, 3, none⟩) (by show w.heap.size ≤ w.heap.size + 1; omega) (.slice a3 am a4)))
    have hk : ∀ k, k < w1.heap.size → k ≠ w.heap.size + 1 → (((((w1.setCell ⟨w.heap.size + 1, 0, none⟩ (.int .i64 a0)).setCell ⟨w.heap.size + 1, 1, none⟩ (.int .i64 a1)).setCell ⟨w.heap.size + 1, 2, none⟩ (.string a2)).setCell ⟨w.heap.size + 1, 3, none⟩ (.slice a3 am a4))).heap[k]? = w1.heap[k]? := fun k _ h => set4_block _ _ _ _ _ _ _ h
    have hs4 : (((((w1.setCell ⟨w.heap.size + 1, 0, none⟩ (.int .i64 a0)).setCell ⟨w.heap.size + 1, 1, none⟩ (.int .i64 a1)).setCell ⟨w.heap.size + 1, 2, none⟩ (.string a2)).setCell ⟨w.heap.size + 1, 3, none⟩ (.slice a3 am a4))).heap.size = w1.heap.size := by simp
    generalize ((((w1.setCell ⟨w.heap.size + 1, 0, none⟩ (.int .i64 a0)).setCell ⟨w.heap.size + 1, 1, none⟩ (.int .i64 a1)).setCell ⟨w.heap.size + 1, 2, none⟩ (.string a2)).setCell ⟨w.heap.size + 1, 3, none⟩ (.slice a3 am a4)) = W4 at *
    have hbel2 := (hbel.alloc hbel.size (.cells #[.int .i64 a0, .int .i64 a1, .string a2, .slice a3 am a4, .slice na ns.length nc] 86)).drew
    have hbF2 : Box (W4.alloc (.cells #[.int .i64 a0, .int .i64 a1, .string a2, .slice a3 am a4, .slice na ns.length nc] 86)).drew (w.heap.size + 1) #[.int .i64 a0, .int .i64 a1, .string a2, .slice a3 am a4] 31 := hbF.alloc _
    have hk2 : ∀ k, k < w1.heap.size → k ≠ w.heap.size + 1 → (W4.alloc (.cells #[.int .i64 a0, .int .i64 a1, .string a2, .slice a3 am a4, .slice na ns.length nc] 86)).drew.heap[k]? = w1.heap[k]? := fun k h1 h2 => (Below.heap_alloc W4 _ k (by omega)).trans (hk k h1 h2)
    generalize (W4.alloc (.cells #[.int .i64 a0, .int .i64 a1, .string a2, .slice a3 am a4, .slice na ns.length nc] 86)).drew = FW at *
    have y0 := hbF2.cell 0
    have y1 := hbF2.cell 1
    have y2 := hbF2.cell 2
    have y3 := hbF2.cell 3
    simp only [List.getElem?_toArray, List.getElem?_cons_succ, List.getElem?_cons_zero] at y0 y1 y2 y3
    refine bodyPost_ret (v := .tuple #[.agg #[.int .i64 a0, .int .i64 a1, .string a2, .slice a3 am a4], .slice na ns.length nc, .int .i64 0, .int .i64 0]) (by simp [results, Tryz.results21, go_sem, y0, y1, y2, y3]) rfl ⟨hbel2, ?_⟩
    rw [HP.out]
    have h7 := HV.out.2.2
    have hn6 := HV.out.2.1
    exact ⟨_, _, rfl, (HV.out.1.far (W' := FW) (fun b hb hlt => hk2 b hlt (by omega))).up (TmK.refl _) (by omega), (hn6.block (fun b hb => by
      obtain ⟨h1, c, fr, h3⟩ := own_typed hn6.own hb
      exact hk2 b (Array.getElem?_eq_some_iff.1 h3).1 (by omega))).lower (by omega)⟩
end Go.Proofs.YthfciekhmbfmfaaGreatDoor

/- The writer's list, given its term. -/
namespace Go.Proofs.YthfciekhmbfmfaaGreatDoor
open Go.RowKit Go Go.Maps

/-- How long the row of bytes is. -/
def lenOf : Option Value → Nat
  | some (.slice _ n _) => n
  | _ => 0
section
variable {w : World} {B b1 b2 : Nat} {fv ov : Value} {plain : Bool} {vn : Nat → List UInt8} {st : WS} {W : World} {mm : Int} {n : Nat}
theorem WrSt.far4 (h : WrSt w B b1 b2 fv plain st ov W) {g : Nat} {cs : Array Value} {t : TypeId} (hg : Box W g cs t) (h1 : g ≠ B) (h2 : t ≠ 5) (hw : w.heap.size ≤ g) (u0 u1 u2 u3 : Value) :
    WrSt w B b1 b2 fv plain st ov ((((W.setCell ⟨g, 0, none⟩ u0).setCell ⟨g, 1, none⟩ u1).setCell ⟨g, 2, none⟩ u2).setCell ⟨g, 3, none⟩ u3) :=
  (((h.far hg h1 h2 hw 0 u0).far (hg.set 0 u0) h1 h2 hw 1 u1).far ((hg.set 0 u0).set 1 u1) h1 h2 hw 2 u2).far (((hg.set 0 u0).set 1 u1).set 2 u2) h1 h2 hw 3 u3
theorem WrTo.setFar4 {W W' : World} (h : WrTo B W W') {g : Nat} (hg : W.heap.size ≤ g) (u0 u1 u2 u3 : Value) : WrTo B W ((((W'.setCell ⟨g, 0, none⟩ u0).setCell ⟨g, 1, none⟩ u1).setCell ⟨g, 2, none⟩ u2).setCell ⟨g, 3, none⟩ u3) :=
  (((h.setFar hg 0 u0).setFar hg 1 u1).setFar hg 2 u2).setFar hg 3 u3
theorem WrSt.lenB (h : WrSt w B b1 b2 fv plain st ov W) : lenOf (W.cell? ⟨B, 0, none⟩) = st.out.length := by
  obtain ⟨a, c, rfl⟩ := h.form
  have c0 := h.box.cell 0
  simp only [List.getElem?_toArray, List.getElem?_cons_zero] at c0
  rw [c0]
  rfl
/-- The loop over the cells of a list: what is written in the end is known, the rest that is written is in its box. -/
def ListI (w : World) (B b1 b2 : Nat) (fv : Value) (plain : Bool) (vn : Nat → List UInt8) (n G : Nat) (W : World) (R : WS) (wr : World) : Prop :=
  ∃ (k i : Int) (s : ByteArray) (us : List Tr) (a : Option Addr) (c fuel : Nat) (st' : WS) (ov' : Value),
    restW (wrN plain vn n) fuel (.node k i s us) st' = R ∧ sizeL us + 1 < fuel ∧ Box wr G #[.int .i64 k, .int .i64 i, .string s, .slice a us.length c] 31 ∧ IsT w.heap.size w (.node k i s us) (.agg #[.int .i64 k, .int .i64 i, .string s, .slice a us.length c]) ∧ (Tr.node k i s us).fine = true ∧
    WrSt w B b1 b2 fv plain st' ov' wr ∧ WrTo B W wr ∧ st'.out.length + 5000 * (sizeL us + 1) + 10 ≤ 800000000 ∧ sizeL us + 1 ≤ n
set_option maxRecDepth 100000 in
set_option maxHeartbeats 32000000 in
theorem list_anyW (hT : TermW w B b1 b2 fv plain vn n) (hv : ∀ k, k < 100000 → (vn k).length ≤ 1000) (nn : Int) (s : ByteArray) (x y : Tr) (a : Option Addr) (c : Nat) (hl : IsL w.heap.size w [x, y] a) (hf : fineL [x, y] = true) (hs : sizeL [x, y] ≤ n) (h : WrSt w B b1 b2 fv plain st ov W) (hb : st.out.length + 5000 * sizeL [x, y] + 100 ≤ 800000000) :
    Calls Tryz.prog 177 #[.pointer (some ⟨B, 0, none⟩), .agg #[.int .i64 5, .int .i64 nn, .string s, .slice a 2 c]] W (WrQ w B b1 b2 fv plain (putF (restW (wrN plain vn n) (sizeL [x, y] + 1) y (wrN plain vn n 999 x (putF st [91]))) [93]) W) := by
  have HT := Lib.hid hT
  have hwW := h.below.size
  obtain ⟨bb, off, rfl, hbb⟩ := hl.addr (by simp)
  obtain ⟨kx, nx, sx, tx, ax, cx, hx, d0, d1, d2, d3, htx⟩ := IsL.node' hl hbb (Below.refl _ _) 0 (by simp)
  obtain ⟨ky, ny, sy, ty, ay, cy, hy, e0, e1, e2, e3, hty⟩ := IsL.node' hl hbb (Below.refl _ _) 1 (by simp)
  simp only [List.getElem_cons_zero, List.getElem_cons_succ, Nat.zero_mul, Nat.add_zero, Nat.one_mul] at hx hy d0 d1 d2 d3 e0 e1 e2 e3 htx hty
  subst hx hy
  simp only [fineL, Bool.and_eq_true, and_true] at hf
  have hsz2 : sizeL [Tr.node kx nx sx tx, Tr.node ky ny sy ty] = (Tr.node kx nx sx tx).size + (Tr.node ky ny sy ty).size := by simp only [sizeL]; omega
  have hA := below_a1 (Nat.le_refl W.heap.size) (.cells #[.int .i64 5, .int .i64 nn, .string s, .slice (some ⟨bb, off, none⟩) 2 c] 31)
  have hbx : Box (W.alloc (.cells #[.int .i64 5, .int .i64 nn, .string s, .slice (some ⟨bb, off, none⟩) 2 c] 31)) W.heap.size #[.int .i64 5, .int .i64 nn, .string s, .slice (some ⟨bb, off, none⟩) 2 c] 31 := Box.at rfl
  have hBne : W.heap.size ≠ B := by have := h.box.lt; omega
  have H0 := Lib.hid (And.intro (h.up hA) (And.intro (WrTo.up (B := B) hA) hbx))
  have HP := Lib.hid (put_any H0.out.1 ⟨#[91]⟩ (by decide) (by show _ + 1 ≤ _; omega))
  have hpl := putF_len st [91]
  simp only [List.length_cons, List.length_nil] at hpl
  have hwl := wrN_len (plain := plain) hv n 999 (.node kx nx sx tx) (putF st [91]) hf.1
  have hxp := size_pos (.node kx nx sx tx)
  have hyz : (Tr.node ky ny sy ty).size = sizeL ty + 1 := by simp only [Tr.size]; omega
  have HC := Lib.hid (fun (w2 : World) (ov2 : Value) (h2 : WrSt w B b1 b2 fv plain (putF st [91]) ov2 w2) => HT.out _ _ 999 _ ov2 w2 (by omega) hf.1 htx h2 (by omega))
  have HD := Lib.hid (And.intro d0 (And.intro d1 (And.intro d2 (And.intro d3 (And.intro e0 (And.intro e1 (And.intro e2 e3)))))))
  have HB := Lib.hid (And.intro hf.2 (And.intro hty (And.intro (show (wrN plain vn n 999 (.node kx nx sx tx) (putF st [91])).out.length + 5000 * (sizeL ty + 1) + 10 ≤ 800000000 by omega) (show sizeL ty + 1 ≤ n by omega))))
  have HFU : Hid (sizeL ty + 1 < sizeL [Tr.node kx nx sx tx, Tr.node ky ny sy ty] + 1) := by rw [Hid, hsz2]; omega
  clear h hA hbx hT hl d0 d1 d2 d3 e0 e1 e2 e3 htx hty hf hpl hwl hb hs hsz2 hxp hyz
  go_enter Tryz.func177, Tryz.ntmps177
  go_wp2_with fail
  refine (HP.out).mono ?_
  rintro e w1 ⟨rfl, ov1, h1, t1⟩
  have hbx1 := t1.box H0.out.2.2 hBne (by decide)
  have q3 := hbx1.cell 3
  have lq := hbx1.lt
  have hbW : bb < w1.heap.size := by have := t1.1; have := H0.out.2.1.1; omega
  have hcell : ∀ o, w1.cell? ⟨bb, o, none⟩ = w.cell? ⟨bb, o, none⟩ := fun o => h1.below.cell (p := ⟨bb, o, none⟩) hbb
  have d0 := (hcell off).trans HD.out.1
  have d1 := (hcell (off + 1)).trans HD.out.2.1
  have d2 := (hcell (off + 2)).trans HD.out.2.2.1
  have d3 := (hcell (off + 3)).trans HD.out.2.2.2.1
  simp only [List.getElem?_toArray, List.getElem?_cons_succ, List.getElem?_cons_zero] at q3
  have H1 := Lib.hid (And.intro h1 (And.intro (H0.out.2.1.trans t1) hbx1))
  clear h1 t1 hbx1 hcell
  go_wp2_with fail
  refine (HC.out _ _ H1.out.1).mono ?_
  rintro e w2 ⟨rfl, ov2, h2, t2⟩
  clear q3 lq hbW d0 d1 d2 d3
  have hbx2 := t2.box H1.out.2.2 hBne (by decide)
  have q0 := hbx2.cell 0
  have q1 := hbx2.cell 1
  have q2 := hbx2.cell 2
  have q3 := hbx2.cell 3
  have z0 := hbx2.frozen 0
  have z1 := hbx2.frozen 1
  have z2 := hbx2.frozen 2
  have z3 := hbx2.frozen 3
  have lq := hbx2.lt
  have hbW : bb < w2.heap.size := by have := t2.1; have := H1.out.2.1.1; omega
  have hcell : ∀ o, w2.cell? ⟨bb, o, none⟩ = w.cell? ⟨bb, o, none⟩ := fun o => h2.below.cell (p := ⟨bb, o, none⟩) hbb
  have e0 := (hcell (off + 4)).trans HD.out.2.2.2.2.1
  have e1 := (hcell (off + 4 + 1)).trans HD.out.2.2.2.2.2.1
  have e2 := (hcell (off + 4 + 2)).trans HD.out.2.2.2.2.2.2.1
  have e3 := (hcell (off + 4 + 3)).trans HD.out.2.2.2.2.2.2.2
  simp only [List.getElem?_toArray, List.getElem?_cons_succ, List.getElem?_cons_zero] at q0 q1 q2 q3
  have h3 := h2.far4 hbx2 hBne (by decide) hwW (.int .i64 ky) (.int .i64 ny) (.string sy) (.slice ay ty.length cy)
  have t3 := (H1.out.2.1.trans t2).setFar4 (Nat.le_refl _) (.int .i64 ky) (.int .i64 ny) (.string sy) (.slice ay ty.length cy)
  have hbx3 := ((((hbx2.set 0 (.int .i64 ky)).set 1 (.int .i64 ny)).set 2 (.string sy)).set 3 (.slice ay ty.length cy))
  have H3 := Lib.hid (And.intro h3 (And.intro t3 hbx3))
  obtain ⟨st2, hst2⟩ : ∃ st2, wrN plain vn n 999 (.node kx nx sx tx) (putF st [91]) = st2 := ⟨_, rfl⟩
  obtain ⟨R, hR⟩ : ∃ R, restW (wrN plain vn n) (sizeL [Tr.node kx nx sx tx, Tr.node ky ny sy ty] + 1) (.node ky ny sy ty) st2 = R := ⟨_, rfl⟩
  rw [hst2] at H3 HB
  rw [hst2, hR]
  have HR := Lib.hid hR
  have HRX : Hid (restW (wrN plain vn n) (sizeL [Tr.node kx nx sx tx, Tr.node ky ny sy ty] + 1) (.node ky ny sy ty) (wrN plain vn n 999 (.node kx nx sx tx) (putF st [91])) = R) := by rw [Hid, hst2]; exact hR
  clear h2 t2 hbx2 h3 t3 hbx3 hcell hR hst2
  go_wp2_with fail
  clear q0 q1 q2 q3 z0 z1 z2 z3 lq hbW e0 e1 e2 e3
  go_loopw [] (fun wr => ListI w B b1 b2 fv plain vn n W.heap.size W R wr) (fun wr => 900000000 - lenOf (wr.cell? ⟨B, 0, none⟩))
  case atStart => exact ⟨ky, ny, sy, ty, ay, cy, _, st2, ov2, HR.out, HFU.out, H3.out.2.2, HB.out.2.1, HB.out.1, H3.out.1, H3.out.2.1, HB.out.2.2.1, HB.out.2.2.2⟩
  case round =>
    obtain ⟨k, i, su, us, ua, uc, fuel, st', ov', hr, hfu, hbx, htu, hfin, h1, t1, hbd, hsn⟩ := hrel
    have HCELL := Lib.hid (readIsCell_any (.node k i su us) _ wr (htu.up h1.below h1.below.size))
    have q0 := hbx.cell 0
    have q1 := hbx.cell 1
    have q2 := hbx.cell 2
    have q3 := hbx.cell 3
    have lq := hbx.lt
    simp only [List.getElem?_toArray, List.getElem?_cons_succ, List.getElem?_cons_zero] at q0 q1 q2 q3
    have H4 := Lib.hid (And.intro h1 (And.intro t1 hbx))
    have HU := Lib.hid (And.intro htu (And.intro hfin (And.intro hr hfu)))
    clear h1 t1 hbx htu hfin hr hfu
    go_wp2_with fail
    refine (HCELL.out).mono ?_
    rintro e w4 ⟨rfl, hB4⟩
    have h4 := H4.out.1.up hB4
    have t4 := H4.out.2.1.trans (WrTo.up (B := B) hB4)
    have hbx4 := H4.out.2.2.keep hB4
    clear q0 q1 q2 q3 lq
    cases hc : cellB (.node k i su us) with
    | true =>
      obtain ⟨i', s', p, q, he⟩ := cell_form hc
      cases he
      have hfin := HU.out.2.1
      have hfl := (fine_node hfin).2
      simp only [fineL, Bool.and_eq_true, and_true] at hfl
      obtain ⟨_, _, e, _, _, _, _, _, hlu⟩ := HU.out.1.open
      cases e
      obtain ⟨ub, uo, rfl, hub⟩ := hlu.addr (by simp)
      obtain ⟨kx, nx, sx, tx, ax, cx, hx, d0, d1, d2, d3, htx⟩ := IsL.node' hlu hub (Below.refl _ _) 0 (by simp)
      obtain ⟨ky, ny, sy, ty, ay, cy, hy, e0, e1, e2, e3, hty⟩ := IsL.node' hlu hub (Below.refl _ _) 1 (by simp)
      simp only [List.getElem_cons_zero, List.getElem_cons_succ, Nat.zero_mul, Nat.add_zero, Nat.one_mul] at hx hy d0 d1 d2 d3 e0 e1 e2 e3 htx hty
      subst hx hy
      have hus : sizeL [Tr.node kx nx sx tx, Tr.node ky ny sy ty] = (Tr.node kx nx sx tx).size + (Tr.node ky ny sy ty).size := by simp only [sizeL]; omega
      have hxp := size_pos (.node kx nx sx tx)
      have hyz : (Tr.node ky ny sy ty).size = sizeL ty + 1 := by simp only [Tr.size]; omega
      have hpl := putF_len st' [44]
      have hpg := putF_ge st' [44]
      simp only [List.length_cons, List.length_nil] at hpl hpg
      have hwl := wrN_len (plain := plain) hv n 999 (.node kx nx sx tx) (putF st' [44]) hfl.1
      have hwg := wrN_ge (plain := plain) (vn := vn) n 999 (.node kx nx sx tx) (putF st' [44])
      obtain ⟨f, rfl⟩ : ∃ f, fuel = f + 1 := ⟨fuel - 1, by have := HU.out.2.2.2; omega⟩
      have hr : Hid (restW (wrN plain vn n) f (.node ky ny sy ty) (wrN plain vn n 999 (.node kx nx sx tx) (putF st' [44])) = R) := by
        have h := HU.out.2.2.1
        rw [restW, if_pos hc] at h
        exact h
      have hnew : Hid ((wrN plain vn n 999 (.node kx nx sx tx) (putF st' [44])).out.length + 5000 * (sizeL ty + 1) + 10 ≤ 800000000 ∧ sizeL ty + 1 ≤ n ∧ sizeL ty + 1 < f ∧ st'.out.length < (wrN plain vn n 999 (.node kx nx sx tx) (putF st' [44])).out.length ∧ st'.out.length ≤ 800000000) := by
        have := HU.out.2.2.2
        refine ⟨?_, ?_, ?_, ?_, ?_⟩ <;> omega
      have HP := Lib.hid (put_any h4 ⟨#[44]⟩ (by decide) (by show _ + 1 ≤ _; omega))
      have HC := Lib.hid (fun (w2 : World) (ov2 : Value) (h2 : WrSt w B b1 b2 fv plain (putF st' [44]) ov2 w2) => HT.out _ _ 999 _ ov2 w2 (by omega) hfl.1 htx h2 (by omega))
      have HD2 := Lib.hid (And.intro d0 (And.intro d1 (And.intro d2 (And.intro d3 (And.intro e0 (And.intro e1 (And.intro e2 e3)))))))
      have HY := Lib.hid (And.intro hty hfl.2)
      have H5 := Lib.hid (And.intro t4 hbx4)
      clear hc hfin hfl hlu d0 d1 d2 d3 e0 e1 e2 e3 htx hty hus hxp hyz hpl hpg hwl hwg h4 t4 hbx4 hB4 hbd hsn
      go_wp2_with fail
      refine (HP.out).mono ?_
      rintro e w5 ⟨rfl, ov5, h5, t5⟩
      have hbx5 := t5.box H5.out.2 hBne (by decide)
      have q3 := hbx5.cell 3
      have lq := hbx5.lt
      have hbW : ub < w5.heap.size := Nat.lt_of_lt_of_le hub h5.below.size
      have hcell : ∀ o, w5.cell? ⟨ub, o, none⟩ = w.cell? ⟨ub, o, none⟩ := fun o => h5.below.cell (p := ⟨ub, o, none⟩) hub
      have d0 := (hcell uo).trans HD2.out.1
      have d1 := (hcell (uo + 1)).trans HD2.out.2.1
      have d2 := (hcell (uo + 2)).trans HD2.out.2.2.1
      have d3 := (hcell (uo + 3)).trans HD2.out.2.2.2.1
      simp only [List.getElem?_toArray, List.getElem?_cons_succ, List.getElem?_cons_zero, List.length_cons, List.length_nil] at q3
      have H6 := Lib.hid (And.intro h5 (And.intro (H5.out.1.trans t5) hbx5))
      clear h5 t5 hbx5 hcell
      go_wp2_with fail
      refine (HC.out _ _ H6.out.1).mono ?_
      rintro e w6 ⟨rfl, ov6, h6, t6⟩
      clear q3 lq hbW d0 d1 d2 d3
      have hbx6 := t6.box H6.out.2.2 hBne (by decide)
      have q0 := hbx6.cell 0
      have q1 := hbx6.cell 1
      have q2 := hbx6.cell 2
      have q3 := hbx6.cell 3
      have z0 := hbx6.frozen 0
      have z1 := hbx6.frozen 1
      have z2 := hbx6.frozen 2
      have z3 := hbx6.frozen 3
      have lq := hbx6.lt
      have hbW : ub < w6.heap.size := Nat.lt_of_lt_of_le hub h6.below.size
      have hcell : ∀ o, w6.cell? ⟨ub, o, none⟩ = w.cell? ⟨ub, o, none⟩ := fun o => h6.below.cell (p := ⟨ub, o, none⟩) hub
      have e0 := (hcell (uo + 4)).trans HD2.out.2.2.2.2.1
      have e1 := (hcell (uo + 4 + 1)).trans HD2.out.2.2.2.2.2.1
      have e2 := (hcell (uo + 4 + 2)).trans HD2.out.2.2.2.2.2.2.1
      have e3 := (hcell (uo + 4 + 3)).trans HD2.out.2.2.2.2.2.2.2
      simp only [List.getElem?_toArray, List.getElem?_cons_succ, List.getElem?_cons_zero, List.length_cons, List.length_nil] at q0 q1 q2 q3
      have h7 := h6.far4 hbx6 hBne (by decide) hwW (.int .i64 ky) (.int .i64 ny) (.string sy) (.slice ay ty.length cy)
      have t7 := (H6.out.2.1.trans t6).setFar4 (Nat.le_refl _) (.int .i64 ky) (.int .i64 ny) (.string sy) (.slice ay ty.length cy)
      have hbx7 := ((((hbx6.set 0 (.int .i64 ky)).set 1 (.int .i64 ny)).set 2 (.string sy)).set 3 (.slice ay ty.length cy))
      have H7 := Lib.hid (And.intro h7 (And.intro t7 hbx7))
      clear h6 t6 hbx6 h7 t7 hbx7 hcell
      go_wp2_with fail
      go_roundw
      case rel => exact ⟨ky, ny, sy, ty, ay, cy, f, _, ov6, hr.out, hnew.out.2.2.1, H7.out.2.2, HY.out.1, HY.out.2, H7.out.1, H7.out.2.1, hnew.out.1, hnew.out.2.1⟩
      case measure =>
        have m1 := H7.out.1.lenB
        have m2 := H4.out.1.lenB
        have m3 := hnew.out.2.2.2
        rw [m1, m2]
        omega
    | false =>
      have hkf : ¬ cellB (.node k i su us) = true := by rw [hc]; exact Bool.false_ne_true
      obtain ⟨f, rfl⟩ : ∃ f, fuel = f + 1 := ⟨fuel - 1, by have := HU.out.2.2.2; omega⟩
      have hr := HU.out.2.2.1
      rw [restW, if_neg hkf] at hr
      have q0 := hbx4.cell 0
      have q1 := hbx4.cell 1
      have q2 := hbx4.cell 2
      have q3 := hbx4.cell 3
      have lq := hbx4.lt
      simp only [List.getElem?_toArray, List.getElem?_cons_succ, List.getElem?_cons_zero] at q0 q1 q2 q3
      by_cases hk3 : k = 3
      · by_cases hs91 : su.data.toList = [91, 93]
        · have hnn : nilB (.node k i su us) = true := by unfold nilB; simp [hk3, hs91]
          rw [if_pos hnn] at hr
          subst hr
          have hse : (su.toList == [91, 93]) = true := by rw [bytes_toList]; simpa using hs91
          have HP := Lib.hid (put_any h4 ⟨#[93]⟩ (by decide) (by show _ + 1 ≤ _; omega))
          have T4 := Lib.hid t4
          clear h4 t4 hbx4 hB4 hbd hsn hc hkf hnn hs91
          subst hk3
          go_wp2_with fail
          refine (HP.out).mono ?_
          rintro e w5 ⟨rfl, ov5, h5, t5⟩
          have H8 := Lib.hid (And.intro h5 (T4.out.trans t5))
          clear h5 t5
          go_wp2_with fail
          first | go_end0 | go_ret
          exact ⟨rfl, ov5, by rw [HRX.out]; exact H8.out.1, H8.out.2⟩
        · have hnn : nilB (.node k i su us) = false := by unfold nilB; simp [hs91]
          have hse : (su.toList != [91, 93]) = true := by rw [bytes_toList]; simpa using hs91
          have hse2 : (su.toList == [91, 93]) = false := by rw [bytes_toList]; simpa using hs91
          have hke : (k != 3) = false := by rw [hk3]; rfl
          clear hs91 hk3
          rw [if_neg (by rw [hnn]; exact Bool.false_ne_true)] at hr
          have hfin := HU.out.2.1
          have hsz : (Tr.node k i su us).size = sizeL us + 1 := by simp only [Tr.size]; omega
          have hpl := putF_len st' [124]
          simp only [List.length_cons, List.length_nil] at hpl
          have hwl := wrN_len (plain := plain) hv n 999 (.node k i su us) (putF st' [124]) hfin
          rw [hr] at hwl
          have HP := Lib.hid (put_any h4 ⟨#[124]⟩ (by decide) (by show _ + 1 ≤ _; omega))
          have HC := Lib.hid (fun (w2 : World) (ov2 : Value) (h2 : WrSt w B b1 b2 fv plain (putF st' [124]) ov2 w2) => HT.out _ _ 999 _ ov2 w2 (by omega) hfin HU.out.1 h2 (by omega))
          have HP2 := Lib.hid (fun (w2 : World) (ov2 : Value) (h2 : WrSt w B b1 b2 fv plain R ov2 w2) => put_any h2 ⟨#[93]⟩ (by decide) (by show _ + 1 ≤ _; omega))
          have H5 := Lib.hid (And.intro t4 hbx4)
          have HRR := Lib.hid hr
          clear h4 t4 hbx4 hB4 hbd hsn hc hkf hnn hfin hsz hpl hwl hr
          go_wp2_with fail
          refine (HP.out).mono ?_
          rintro e w5 ⟨rfl, ov5, h5, t5⟩
          have hbx5 := t5.box H5.out.2 hBne (by decide)
          clear q0 q1 q2 q3 lq
          have q0 := hbx5.cell 0
          have q1 := hbx5.cell 1
          have q2 := hbx5.cell 2
          have q3 := hbx5.cell 3
          have lq := hbx5.lt
          simp only [List.getElem?_toArray, List.getElem?_cons_succ, List.getElem?_cons_zero] at q0 q1 q2 q3
          have H6 := Lib.hid (And.intro h5 (H5.out.1.trans t5))
          clear h5 t5 hbx5
          go_wp2_with fail
          refine (HC.out _ _ H6.out.1).mono ?_
          rintro e w6 ⟨rfl, ov6, h6, t6⟩
          rw [HRR.out] at h6
          have H7 := Lib.hid (And.intro h6 (H6.out.2.trans t6))
          clear h6 t6 q0 q1 q2 q3 lq
          go_wp2_with fail
          refine (HP2.out _ _ H7.out.1).mono ?_
          rintro e w7 ⟨rfl, ov7, h7, t7⟩
          have H8 := Lib.hid (And.intro h7 (H7.out.2.trans t7))
          clear h7 t7
          go_wp2_with fail
          first | go_end0 | go_ret
          exact ⟨rfl, ov7, by rw [HRX.out]; exact H8.out.1, H8.out.2⟩
      · have hnn : nilB (.node k i su us) = false := by unfold nilB; simp [hk3]
        have hke : (k != 3) = true := by simpa using hk3
        clear hk3
        rw [if_neg (by rw [hnn]; exact Bool.false_ne_true)] at hr
        have hfin := HU.out.2.1
        have hsz : (Tr.node k i su us).size = sizeL us + 1 := by simp only [Tr.size]; omega
        have hpl := putF_len st' [124]
        simp only [List.length_cons, List.length_nil] at hpl
        have hwl := wrN_len (plain := plain) hv n 999 (.node k i su us) (putF st' [124]) hfin
        rw [hr] at hwl
        have HP := Lib.hid (put_any h4 ⟨#[124]⟩ (by decide) (by show _ + 1 ≤ _; omega))
        have HC := Lib.hid (fun (w2 : World) (ov2 : Value) (h2 : WrSt w B b1 b2 fv plain (putF st' [124]) ov2 w2) => HT.out _ _ 999 _ ov2 w2 (by omega) hfin HU.out.1 h2 (by omega))
        have HP2 := Lib.hid (fun (w2 : World) (ov2 : Value) (h2 : WrSt w B b1 b2 fv plain R ov2 w2) => put_any h2 ⟨#[93]⟩ (by decide) (by show _ + 1 ≤ _; omega))
        have H5 := Lib.hid (And.intro t4 hbx4)
        have HRR := Lib.hid hr
        clear h4 t4 hbx4 hB4 hbd hsn hc hkf hnn hfin hsz hpl hwl hr
        go_wp2_with fail
        refine (HP.out).mono ?_
        rintro e w5 ⟨rfl, ov5, h5, t5⟩
        have hbx5 := t5.box H5.out.2 hBne (by decide)
        clear q0 q1 q2 q3 lq
        have q0 := hbx5.cell 0
        have q1 := hbx5.cell 1
        have q2 := hbx5.cell 2
        have q3 := hbx5.cell 3
        have lq := hbx5.lt
        simp only [List.getElem?_toArray, List.getElem?_cons_succ, List.getElem?_cons_zero] at q0 q1 q2 q3
        have H6 := Lib.hid (And.intro h5 (H5.out.1.trans t5))
        clear h5 t5 hbx5
        go_wp2_with fail
        refine (HC.out _ _ H6.out.1).mono ?_
        rintro e w6 ⟨rfl, ov6, h6, t6⟩
        rw [HRR.out] at h6
        have H7 := Lib.hid (And.intro h6 (H6.out.2.trans t6))
        clear h6 t6 q0 q1 q2 q3 lq
        go_wp2_with fail
        refine (HP2.out _ _ H7.out.1).mono ?_
        rintro e w7 ⟨rfl, ov7, h7, t7⟩
        have H8 := Lib.hid (And.intro h7 (H7.out.2.trans t7))
        clear h7 t7
        go_wp2_with fail
        first | go_end0 | go_ret
        exact ⟨rfl, ov7, by rw [HRX.out]; exact H8.out.1, H8.out.2⟩
end
end Go.Proofs.YthfciekhmbfmfaaGreatDoor
