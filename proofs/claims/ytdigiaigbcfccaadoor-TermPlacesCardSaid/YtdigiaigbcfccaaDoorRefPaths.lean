/- The second reading of Paths. -/
import Derived.Test.YtdigiaigbcfccaaDoorPlacesR
namespace Go.Proofs.YtdigiaigbcfccaaDoor
open Go.RowKit Go

set_option maxRecDepth 100000 in
set_option maxHeartbeats 2000000 in
theorem refPaths_any (X : Tr) (v : Value) (w : World) (hx : IsT w.heap.size w X v) (hsx : X.size ≤ 1000000) (hdx : X.deep ≤ 1000000) :
    Calls Tryd.prog 28 #[v] w (PathsPost X w) := by
  obtain ⟨k, n, s, a, m, c, rfl⟩ := (IsT.toP _ _ hx).form
  have bbx : Box (w.alloc (.cells #[.int .i64 k, .int .i64 n, .string s, .slice a m c] 25)) w.heap.size #[.int .i64 k, .int .i64 n, .string s, .slice a m c] 25 := Box.at rfl
  have hb := below_a1 (Nat.le_refl w.heap.size) (.cells #[.int .i64 k, .int .i64 n, .string s, .slice a m c] 25)
  replace hx := hx.up hb hb.size
  have hck := refCheck_any X _ _ hx (by omega) (by omega)
  have HCK := Lib.hid hck
  have q0 := bbx.cell 0
  have q1 := bbx.cell 1
  have q2 := bbx.cell 2
  have q3 := bbx.cell 3
  simp only [List.getElem?_toArray, List.getElem?_cons_succ, List.getElem?_cons_zero] at q0 q1 q2 q3
  clear hck
  go_enter Tryd.func28, Tryd.ntmps28
  go_wp2_with fail
  clear q0 q1 q2 q3
  refine HCK.out.mono ?_
  rintro e w1 ⟨rfl, B⟩
  replace bbx := bbx.keep B
  replace hx := hx.up B B.size
  replace hb := hb.trans (B.mono hb.size)
  clear B HCK
  cases hr : isB X with
  | false =>
    rw [show errI false = 3 from rfl]
    have HR := Lib.hid hr
    clear hr
    go_wp2_with fail
    refine bodyPost_ret (v := .tuple #[.slice none 0 0, .int .i64 3]) (by simp [results, Tryd.results28, go_sem]) rfl ⟨hb, ?_⟩
    rw [HR.out]
  | true =>
    rw [show errI true = 0 from rfl]
    have HR := Lib.hid hr
    clear hr
    have hpl := refPlaces_any X [] _ (.slice none 0 0) w1 hx ⟨none, 0, rfl, by decide, fun h => by simp at h⟩ (by simpa using hsx)
    have HPL := Lib.hid hpl
    have q0 := bbx.cell 0
    have q1 := bbx.cell 1
    have q2 := bbx.cell 2
    have q3 := bbx.cell 3
    have lx := bbx.lt
    simp only [List.getElem?_toArray, List.getElem?_cons_succ, List.getElem?_cons_zero] at q0 q1 q2 q3
    clear hpl hx
    go_wp2_with fail
    refine HPL.out.mono ?_
    rintro e w2 ⟨o, rfl, hN, hB⟩
    have hB' := hb.trans (hB.mono hb.size)
    have HF := Lib.hid (And.intro (hN.base hb.size) hB')
    clear hN hB hB' HPL q0 q1 q2 q3
    go_wp2_with fail
    refine bodyPost_ret (v := .tuple #[o, .int .i64 0]) (by simp [results, Tryd.results28, go_sem]) rfl ⟨HF.out.2, ?_⟩
    rw [HR.out]
    exact ⟨o, rfl, by rw [pathsT_plc]; exact HF.out.1⟩
end Go.Proofs.YtdigiaigbcfccaaDoor
