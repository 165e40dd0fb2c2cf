/- read.Lex: the lexemes of a text. -/
import Derived.Test.YthfciekhmbfmfaaGreatDoorAttS
namespace Go.Proofs.YthfciekhmbfmfaaGreatDoor
open Go.RowKit Go Go.Maps

def kindN : TK → Int
  | .name => 1
  | .quoted => 2
  | .var => 3
  | .int => 4
  | .str => 5
  | .sign => 6
  | .fin => 7
/-- A lexeme as five cells. -/
def lxV (x : Lx) : List Value := [.int .i64 (kindN x.t.k), .int .i64 (if x.t.k = .int then (x.t.n : Int) else 0), sV (if x.t.k = .int then [] else x.t.s), .int .i64 (x.a : Int), .int .i64 (x.e : Int)]
theorem infoLx : (Tryz.prog.info? 60).map (fun i => (i.zero, i.size, i.bytes)) = some (some (.agg #[.int .i64 0, .int .i64 0, .string ⟨#[]⟩, .int .i64 0, .int .i64 0]), 5, 48) := by kernel_rfl
set_option maxRecDepth 100000 in
set_option maxHeartbeats 8000000 in
theorem lexeme_any (x : Lx) (W : World) : Calls Tryz.prog 59 #[.agg #[tokV x.t, .int .i64 (x.a : Int), .int .i64 (x.e : Int)]] W fun e W' => e = .returned (.agg (lxV x).toArray) ∧ Below W.heap.size W W' := by
  obtain ⟨⟨k, s, n⟩, a, en⟩ := x
  cases k with
  | name =>
    have HP : Hid ((.agg (lxV ⟨⟨.name, s, n⟩, a, en⟩).toArray : Value) = .agg #[.int .i64 1, .int .i64 0, sV s, .int .i64 (a : Int), .int .i64 (en : Int)]) := rfl
    have ta0 := ta_any .name (some ⟨.name, s, n⟩)
    simp only [tokO, tokV, kTy, taV, taB, payV, reduceCtorEq, if_false, if_true, decide_true, decide_false] at ta0
    simp only [tokV]
    have hA := below_a3 (Nat.le_refl W.heap.size) (.cells #[.iface 134 (sV s), .int .i64 (a : Int), .int .i64 (en : Int)] 78) (.cells #[.int .i64 0, .int .i64 0, .string ⟨#[]⟩, .int .i64 0, .int .i64 0] 60) (.cells #[.int .i64 0, .int .i64 0, .string ⟨#[]⟩, .int .i64 (a : Int), .int .i64 (en : Int)] 60)
    have hP0 : Box (((W.alloc (.cells #[.iface 134 (sV s), .int .i64 (a : Int), .int .i64 (en : Int)] 78)).alloc (.cells #[.int .i64 0, .int .i64 0, .string ⟨#[]⟩, .int .i64 0, .int .i64 0] 60)).alloc (.cells #[.int .i64 0, .int .i64 0, .string ⟨#[]⟩, .int .i64 (a : Int), .int .i64 (en : Int)] 60)) W.heap.size #[.iface 134 (sV s), .int .i64 (a : Int), .int .i64 (en : Int)] 78 := ((Box.at rfl).alloc _).alloc _
    have hR0 : Box (((W.alloc (.cells #[.iface 134 (sV s), .int .i64 (a : Int), .int .i64 (en : Int)] 78)).alloc (.cells #[.int .i64 0, .int .i64 0, .string ⟨#[]⟩, .int .i64 0, .int .i64 0] 60)).alloc (.cells #[.int .i64 0, .int .i64 0, .string ⟨#[]⟩, .int .i64 (a : Int), .int .i64 (en : Int)] 60)) (W.heap.size + 1) #[.int .i64 0, .int .i64 0, .string ⟨#[]⟩, .int .i64 0, .int .i64 0] 60 := (Box.at (by simp)).alloc _
    have hO0 : Box (((W.alloc (.cells #[.iface 134 (sV s), .int .i64 (a : Int), .int .i64 (en : Int)] 78)).alloc (.cells #[.int .i64 0, .int .i64 0, .string ⟨#[]⟩, .int .i64 0, .int .i64 0] 60)).alloc (.cells #[.int .i64 0, .int .i64 0, .string ⟨#[]⟩, .int .i64 (a : Int), .int .i64 (en : Int)] 60)) (W.heap.size + 2) #[.int .i64 0, .int .i64 0, .string ⟨#[]⟩, .int .i64 (a : Int), .int .i64 (en : Int)] 60 := Box.at (by simp)
    have H0 := Lib.hid (And.intro hA (And.intro hR0 hO0))
    have p0 := hP0.cell 0
    have r0 := hR0.cell 0
    have r1 := hR0.cell 1
    have r2 := hR0.cell 2
    have r3 := hR0.cell 3
    have r4 := hR0.cell 4
    have zr0 := hR0.frozen 0
    have zr1 := hR0.frozen 1
    have zr2 := hR0.frozen 2
    have zr3 := hR0.frozen 3
    have zr4 := hR0.frozen 4
    have lr := hR0.lt
    have q0 := hO0.cell 0
    have q1 := hO0.cell 1
    have q2 := hO0.cell 2
    have q3 := hO0.cell 3
    have q4 := hO0.cell 4
    have zq0 := hO0.frozen 0
    have zq1 := hO0.frozen 1
    have zq2 := hO0.frozen 2
    have zq3 := hO0.frozen 3
    have zq4 := hO0.frozen 4
    have lq := hO0.lt
    have lp := hP0.lt
    simp only [List.getElem?_toArray, List.getElem?_cons_succ, List.getElem?_cons_zero] at p0 r0 r1 r2 r3 r4 q0 q1 q2 q3 q4
    clear hA hP0 hR0 hO0
    generalize hW3 : (((W.alloc (.cells #[.iface 134 (sV s), .int .i64 (a : Int), .int .i64 (en : Int)] 78)).alloc (.cells #[.int .i64 0, .int .i64 0, .string ⟨#[]⟩, .int .i64 0, .int .i64 0] 60)).alloc (.cells #[.int .i64 0, .int .i64 0, .string ⟨#[]⟩, .int .i64 (a : Int), .int .i64 (en : Int)] 60)) = X at *
    go_enter Tryz.func59, Tryz.ntmps59
    go_wp2_with fail
    have hbR0 := (H0.out.2.1.other (show W.heap.size + 1 ≠ W.heap.size + 2 by omega) 0 (.int .i64 1)).other (show W.heap.size + 1 ≠ W.heap.size + 2 by omega) 2 (sV s)
    have hbR := ((((hbR0.set 0 (.int .i64 1)).set 1 (.int .i64 0)).set 2 (sV s)).set 3 (.int .i64 (a : Int))).set 4 (.int .i64 (en : Int))
    have hbel := ((((((H0.out.1.setCell (p := ⟨W.heap.size + 2, 0, none⟩) (by show W.heap.size ≤ W.heap.size + 2; omega) (.int .i64 1)).setCell (p := ⟨W.heap.size + 2, 2, none⟩) (by show W.heap.size ≤ W.heap.size + 2; omega) (sV s)).setCell (p := ⟨W.heap.size + 1, 0, none⟩) (by show W.heap.size ≤ W.heap.size + 1; omega) (.int .i64 1)).setCell (p := ⟨W.heap.size + 1, 1, none⟩) (by show W.heap.size ≤ W.heap.size + 1; omega) (.int .i64 0)).setCell (p := ⟨W.heap.size + 1, 2, none⟩) (by show W.heap.size ≤ W.heap.size + 1; omega) (sV s)).setCell (p := ⟨W.heap.size + 1, 3, none⟩) (by show W.heap.size ≤ W.heap.size + 1; omega) (.int .i64 (a : Int))).setCell (p := ⟨W.heap.size + 1, 4, none⟩) (by show W.heap.size ≤ W.heap.size + 1; omega) (.int .i64 (en : Int))
    generalize (((((((X.setCell ⟨W.heap.size + 2, 0, none⟩ (.int .i64 1)).setCell ⟨W.heap.size + 2, 2, none⟩ (sV s)).setCell ⟨W.heap.size + 1, 0, none⟩ (.int .i64 1)).setCell ⟨W.heap.size + 1, 1, none⟩ (.int .i64 0)).setCell ⟨W.heap.size + 1, 2, none⟩ (sV s)).setCell ⟨W.heap.size + 1, 3, none⟩ (.int .i64 (a : Int))).setCell ⟨W.heap.size + 1, 4, none⟩ (.int .i64 (en : Int))) = FW at *
    have y0 := hbR.cell 0
    have y1 := hbR.cell 1
    have y2 := hbR.cell 2
    have y3 := hbR.cell 3
    have y4 := hbR.cell 4
    simp only [List.setIfInBounds_toArray, List.set_cons_zero, List.set_cons_succ, List.getElem?_toArray, List.getElem?_cons_succ, List.getElem?_cons_zero] at y0 y1 y2 y3 y4
    exact bodyPost_ret (v := .agg #[.int .i64 1, .int .i64 0, sV s, .int .i64 (a : Int), .int .i64 (en : Int)]) (by simp [results, Tryz.results59, go_sem, y0, y1, y2, y3, y4]) rfl ⟨by rw [HP.out], hbel⟩
  | quoted =>
    have HP : Hid ((.agg (lxV ⟨⟨.quoted, s, n⟩, a, en⟩).toArray : Value) = .agg #[.int .i64 2, .int .i64 0, sV s, .int .i64 (a : Int), .int .i64 (en : Int)]) := rfl
    have ta0 := ta_any .name (some ⟨.quoted, s, n⟩)
    have ta1 := ta_any .quoted (some ⟨.quoted, s, n⟩)
    simp only [tokO, tokV, kTy, taV, taB, payV, reduceCtorEq, if_false, if_true, decide_true, decide_false] at ta0 ta1
    simp only [tokV]
    have hA := below_a3 (Nat.le_refl W.heap.size) (.cells #[.iface 135 (sV s), .int .i64 (a : Int), .int .i64 (en : Int)] 78) (.cells #[.int .i64 0, .int .i64 0, .string ⟨#[]⟩, .int .i64 0, .int .i64 0] 60) (.cells #[.int .i64 0, .int .i64 0, .string ⟨#[]⟩, .int .i64 (a : Int), .int .i64 (en : Int)] 60)
    have hP0 : Box (((W.alloc (.cells #[.iface 135 (sV s), .int .i64 (a : Int), .int .i64 (en : Int)] 78)).alloc (.cells #[.int .i64 0, .int .i64 0, .string ⟨#[]⟩, .int .i64 0, .int .i64 0] 60)).alloc (.cells #[.int .i64 0, .int .i64 0, .string ⟨#[]⟩, .int .i64 (a : Int), .int .i64 (en : Int)] 60)) W.heap.size #[.iface 135 (sV s), .int .i64 (a : Int), .int .i64 (en : Int)] 78 := ((Box.at rfl).alloc _).alloc _
    have hR0 : Box (((W.alloc (.cells #[.iface 135 (sV s), .int .i64 (a : Int), .int .i64 (en : Int)] 78)).alloc (.cells #[.int .i64 0, .int .i64 0, .string ⟨#[]⟩, .int .i64 0, .int .i64 0] 60)).alloc (.cells #[.int .i64 0, .int .i64 0, .string ⟨#[]⟩, .int .i64 (a : Int), .int .i64 (en : Int)] 60)) (W.heap.size + 1) #[.int .i64 0, .int .i64 0, .string ⟨#[]⟩, .int .i64 0, .int .i64 0] 60 := (Box.at (by simp)).alloc _
    have hO0 : Box (((W.alloc (.cells #[.iface 135 (sV s), .int .i64 (a : Int), .int .i64 (en : Int)] 78)).alloc (.cells #[.int .i64 0, .int .i64 0, .string ⟨#[]⟩, .int .i64 0, .int .i64 0] 60)).alloc (.cells #[.int .i64 0, .int .i64 0, .string ⟨#[]⟩, .int .i64 (a : Int), .int .i64 (en : Int)] 60)) (W.heap.size + 2) #[.int .i64 0, .int .i64 0, .string ⟨#[]⟩, .int .i64 (a : Int), .int .i64 (en : Int)] 60 := Box.at (by simp)
    have H0 := Lib.hid (And.intro hA (And.intro hR0 hO0))
    have p0 := hP0.cell 0
    have r0 := hR0.cell 0
    have r1 := hR0.cell 1
    have r2 := hR0.cell 2
    have r3 := hR0.cell 3
    have r4 := hR0.cell 4
    have zr0 := hR0.frozen 0
    have zr1 := hR0.frozen 1
    have zr2 := hR0.frozen 2
    have zr3 := hR0.frozen 3
    have zr4 := hR0.frozen 4
    have lr := hR0.lt
    have q0 := hO0.cell 0
    have q1 := hO0.cell 1
    have q2 := hO0.cell 2
    have q3 := hO0.cell 3
    have q4 := hO0.cell 4
    have zq0 := hO0.frozen 0
    have zq1 := hO0.frozen 1
    have zq2 := hO0.frozen 2
    have zq3 := hO0.frozen 3
    have zq4 := hO0.frozen 4
    have lq := hO0.lt
    have lp := hP0.lt
    simp only [List.getElem?_toArray, List.getElem?_cons_succ, List.getElem?_cons_zero] at p0 r0 r1 r2 r3 r4 q0 q1 q2 q3 q4
    clear hA hP0 hR0 hO0
    generalize hW3 : (((W.alloc (.cells #[.iface 135 (sV s), .int .i64 (a : Int), .int .i64 (en : Int)] 78)).alloc (.cells #[.int .i64 0, .int .i64 0, .string ⟨#[]⟩, .int .i64 0, .int .i64 0] 60)).alloc (.cells #[.int .i64 0, .int .i64 0, .string ⟨#[]⟩, .int .i64 (a : Int), .int .i64 (en : Int)] 60)) = X at *
    go_enter Tryz.func59, Tryz.ntmps59
    go_wp2_with fail
    have hbR0 := (H0.out.2.1.other (show W.heap.size + 1 ≠ W.heap.size + 2 by omega) 0 (.int .i64 2)).other (show W.heap.size + 1 ≠ W.heap.size + 2 by omega) 2 (sV s)
    have hbR := ((((hbR0.set 0 (.int .i64 2)).set 1 (.int .i64 0)).set 2 (sV s)).set 3 (.int .i64 (a : Int))).set 4 (.int .i64 (en : Int))
    have hbel := ((((((H0.out.1.setCell (p := ⟨W.heap.size + 2, 0, none⟩) (by show W.heap.size ≤ W.heap.size + 2; omega) (.int .i64 2)).setCell (p := ⟨W.heap.size + 2, 2, none⟩) (by show W.heap.size ≤ W.heap.size + 2; omega) (sV s)).setCell (p := ⟨W.heap.size + 1, 0, none⟩) (by show W.heap.size ≤ W.heap.size + 1; omega) (.int .i64 2)).setCell (p := ⟨W.heap.size + 1, 1, none⟩) (by show W.heap.size ≤ W.heap.size + 1; omega) (.int .i64 0)).setCell (p := ⟨W.heap.size + 1, 2, none⟩) (by show W.heap.size ≤ W.heap.size + 1; omega) (sV s)).setCell (p := ⟨W.heap.size + 1, 3, none⟩) (by show W.heap.size ≤ W.heap.size + 1; omega) (.int .i64 (a : Int))).setCell (p := ⟨W.heap.size + 1, 4, none⟩) (by show W.heap.size ≤ W.heap.size + 1; omega) (.int .i64 (en : Int))
    generalize (((((((X.setCell ⟨W.heap.size + 2, 0, none⟩ (.int .i64 2)).setCell ⟨W.heap.size + 2, 2, none⟩ (sV s)).setCell ⟨W.heap.size + 1, 0, none⟩ (.int .i64 2)).setCell ⟨W.heap.size + 1, 1, none⟩ (.int .i64 0)).setCell ⟨W.heap.size + 1, 2, none⟩ (sV s)).setCell ⟨W.heap.size + 1, 3, none⟩ (.int .i64 (a : Int))).setCell ⟨W.heap.size + 1, 4, none⟩ (.int .i64 (en : Int))) = FW at *
    have y0 := hbR.cell 0
    have y1 := hbR.cell 1
    have y2 := hbR.cell 2
    have y3 := hbR.cell 3
    have y4 := hbR.cell 4
    simp only [List.setIfInBounds_toArray, List.set_cons_zero, List.set_cons_succ, List.getElem?_toArray, List.getElem?_cons_succ, List.getElem?_cons_zero] at y0 y1 y2 y3 y4
    exact bodyPost_ret (v := .agg #[.int .i64 2, .int .i64 0, sV s, .int .i64 (a : Int), .int .i64 (en : Int)]) (by simp [results, Tryz.results59, go_sem, y0, y1, y2, y3, y4]) rfl ⟨by rw [HP.out], hbel⟩
  | var =>
    have HP : Hid ((.agg (lxV ⟨⟨.var, s, n⟩, a, en⟩).toArray : Value) = .agg #[.int .i64 3, .int .i64 0, sV s, .int .i64 (a : Int), .int .i64 (en : Int)]) := rfl
    have ta0 := ta_any .name (some ⟨.var, s, n⟩)
    have ta1 := ta_any .quoted (some ⟨.var, s, n⟩)
    have ta2 := ta_any .var (some ⟨.var, s, n⟩)
    simp only [tokO, tokV, kTy, taV, taB, payV, reduceCtorEq, if_false, if_true, decide_true, decide_false] at ta0 ta1 ta2
    simp only [tokV]
    have hA := below_a3 (Nat.le_refl W.heap.size) (.cells #[.iface 136 (sV s), .int .i64 (a : Int), .int .i64 (en : Int)] 78) (.cells #[.int .i64 0, .int .i64 0, .string ⟨#[]⟩, .int .i64 0, .int .i64 0] 60) (.cells #[.int .i64 0, .int .i64 0, .string ⟨#[]⟩, .int .i64 (a : Int), .int .i64 (en : Int)] 60)
    have hP0 : Box (((W.alloc (.cells #[.iface 136 (sV s), .int .i64 (a : Int), .int .i64 (en : Int)] 78)).alloc (.cells #[.int .i64 0, .int .i64 0, .string ⟨#[]⟩, .int .i64 0, .int .i64 0] 60)).alloc (.cells #[.int .i64 0, .int .i64 0, .string ⟨#[]⟩, .int .i64 (a : Int), .int .i64 (en : Int)] 60)) W.heap.size #[.iface 136 (sV s), .int .i64 (a : Int), .int .i64 (en : Int)] 78 := ((Box.at rfl).alloc _).alloc _
    have hR0 : Box (((W.alloc (.cells #[.iface 136 (sV s), .int .i64 (a : Int), .int .i64 (en : Int)] 78)).alloc (.cells #[.int .i64 0, .int .i64 0, .string ⟨#[]⟩, .int .i64 0, .int .i64 0] 60)).alloc (.cells #[.int .i64 0, .int .i64 0, .string ⟨#[]⟩, .int .i64 (a : Int), .int .i64 (en : Int)] 60)) (W.heap.size + 1) #[.int .i64 0, .int .i64 0, .string ⟨#[]⟩, .int .i64 0, .int .i64 0] 60 := (Box.at (by simp)).alloc _
    have hO0 : Box (((W.alloc (.cells #[.iface 136 (sV s), .int .i64 (a : Int), .int .i64 (en : Int)] 78)).alloc (.cells #[.int .i64 0, .int .i64 0, .string ⟨#[]⟩, .int .i64 0, .int .i64 0] 60)).alloc (.cells #[.int .i64 0, .int .i64 0, .string ⟨#[]⟩, .int .i64 (a : Int), .int .i64 (en : Int)] 60)) (W.heap.size + 2) #[.int .i64 0, .int .i64 0, .string ⟨#[]⟩, .int .i64 (a : Int), .int .i64 (en : Int)] 60 := Box.at (by simp)
    have H0 := Lib.hid (And.intro hA (And.intro hR0 hO0))
    have p0 := hP0.cell 0
    have r0 := hR0.cell 0
    have r1 := hR0.cell 1
    have r2 := hR0.cell 2
    have r3 := hR0.cell 3
    have r4 := hR0.cell 4
    have zr0 := hR0.frozen 0
    have zr1 := hR0.frozen 1
    have zr2 := hR0.frozen 2
    have zr3 := hR0.frozen 3
    have zr4 := hR0.frozen 4
    have lr := hR0.lt
    have q0 := hO0.cell 0
    have q1 := hO0.cell 1
    have q2 := hO0.cell 2
    have q3 := hO0.cell 3
    have q4 := hO0.cell 4
    have zq0 := hO0.frozen 0
    have zq1 := hO0.frozen 1
    have zq2 := hO0.frozen 2
    have zq3 := hO0.frozen 3
    have zq4 := hO0.frozen 4
    have lq := hO0.lt
    have lp := hP0.lt
    simp only [List.getElem?_toArray, List.getElem?_cons_succ, List.getElem?_cons_zero] at p0 r0 r1 r2 r3 r4 q0 q1 q2 q3 q4
    clear hA hP0 hR0 hO0
    generalize hW3 : (((W.alloc (.cells #[.iface 136 (sV s), .int .i64 (a : Int), .int .i64 (en : Int)] 78)).alloc (.cells #[.int .i64 0, .int .i64 0, .string ⟨#[]⟩, .int .i64 0, .int .i64 0] 60)).alloc (.cells #[.int .i64 0, .int .i64 0, .string ⟨#[]⟩, .int .i64 (a : Int), .int .i64 (en : Int)] 60)) = X at *
    go_enter Tryz.func59, Tryz.ntmps59
    go_wp2_with fail
    have hbR0 := (H0.out.2.1.other (show W.heap.size + 1 ≠ W.heap.size + 2 by omega) 0 (.int .i64 3)).other (show W.heap.size + 1 ≠ W.heap.size + 2 by omega) 2 (sV s)
    have hbR := ((((hbR0.set 0 (.int .i64 3)).set 1 (.int .i64 0)).set 2 (sV s)).set 3 (.int .i64 (a : Int))).set 4 (.int .i64 (en : Int))
    have hbel := ((((((H0.out.1.setCell (p := ⟨W.heap.size + 2, 0, none⟩) (by show W.heap.size ≤ W.heap.size + 2; omega) (.int .i64 3)).setCell (p := ⟨W.heap.size + 2, 2, none⟩) (by show W.heap.size ≤ W.heap.size + 2; omega) (sV s)).setCell (p := ⟨W.heap.size + 1, 0, none⟩) (by show W.heap.size ≤ W.heap.size + 1; omega) (.int .i64 3)).setCell (p := ⟨W.heap.size + 1, 1, none⟩) (by show W.heap.size ≤ W.heap.size + 1; omega) (.int .i64 0)).setCell (p := ⟨W.heap.size + 1, 2, none⟩) (by show W.heap.size ≤ W.heap.size + 1; omega) (sV s)).setCell (p := ⟨W.heap.size + 1, 3, none⟩) (by show W.heap.size ≤ W.heap.size + 1; omega) (.int .i64 (a : Int))).setCell (p := ⟨W.heap.size + 1, 4, none⟩) (by show W.heap.size ≤ W.heap.size + 1; omega) (.int .i64 (en : Int))
    generalize (((((((X.setCell ⟨W.heap.size + 2, 0, none⟩ (.int .i64 3)).setCell ⟨W.heap.size + 2, 2, none⟩ (sV s)).setCell ⟨W.heap.size + 1, 0, none⟩ (.int .i64 3)).setCell ⟨W.heap.size + 1, 1, none⟩ (.int .i64 0)).setCell ⟨W.heap.size + 1, 2, none⟩ (sV s)).setCell ⟨W.heap.size + 1, 3, none⟩ (.int .i64 (a : Int))).setCell ⟨W.heap.size + 1, 4, none⟩ (.int .i64 (en : Int))) = FW at *
    have y0 := hbR.cell 0
    have y1 := hbR.cell 1
    have y2 := hbR.cell 2
    have y3 := hbR.cell 3
    have y4 := hbR.cell 4
    simp only [List.setIfInBounds_toArray, List.set_cons_zero, List.set_cons_succ, List.getElem?_toArray, List.getElem?_cons_succ, List.getElem?_cons_zero] at y0 y1 y2 y3 y4
    exact bodyPost_ret (v := .agg #[.int .i64 3, .int .i64 0, sV s, .int .i64 (a : Int), .int .i64 (en : Int)]) (by simp [results, Tryz.results59, go_sem, y0, y1, y2, y3, y4]) rfl ⟨by rw [HP.out], hbel⟩
  | int =>
    have HP : Hid ((.agg (lxV ⟨⟨.int, s, n⟩, a, en⟩).toArray : Value) = .agg #[.int .i64 4, .int .i64 (n : Int), sV [], .int .i64 (a : Int), .int .i64 (en : Int)]) := rfl
    have ta0 := ta_any .name (some ⟨.int, s, n⟩)
    have ta1 := ta_any .quoted (some ⟨.int, s, n⟩)
    have ta2 := ta_any .var (some ⟨.int, s, n⟩)
    have ta3 := ta_any .int (some ⟨.int, s, n⟩)
    simp only [tokO, tokV, kTy, taV, taB, payV, reduceCtorEq, if_false, if_true, decide_true, decide_false] at ta0 ta1 ta2 ta3
    simp only [tokV]
    have hA := below_a3 (Nat.le_refl W.heap.size) (.cells #[.iface 137 (.int .i64 (n : Int)), .int .i64 (a : Int), .int .i64 (en : Int)] 78) (.cells #[.int .i64 0, .int .i64 0, .string ⟨#[]⟩, .int .i64 0, .int .i64 0] 60) (.cells #[.int .i64 0, .int .i64 0, .string ⟨#[]⟩, .int .i64 (a : Int), .int .i64 (en : Int)] 60)
    have hP0 : Box (((W.alloc (.cells #[.iface 137 (.int .i64 (n : Int)), .int .i64 (a : Int), .int .i64 (en : Int)] 78)).alloc (.cells #[.int .i64 0, .int .i64 0, .string ⟨#[]⟩, .int .i64 0, .int .i64 0] 60)).alloc (.cells #[.int .i64 0, .int .i64 0, .string ⟨#[]⟩, .int .i64 (a : Int), .int .i64 (en : Int)] 60)) W.heap.size #[.iface 137 (.int .i64 (n : Int)), .int .i64 (a : Int), .int .i64 (en : Int)] 78 := ((Box.at rfl).alloc _).alloc _
    have hR0 : Box (((W.alloc (.cells #[.iface 137 (.int .i64 (n : Int)), .int .i64 (a : Int), .int .i64 (en : Int)] 78)).alloc (.cells #[.int .i64 0, .int .i64 0, .string ⟨#[]⟩, .int .i64 0, .int .i64 0] 60)).alloc (.cells #[.int .i64 0, .int .i64 0, .string ⟨#[]⟩, .int .i64 (a : Int), .int .i64 (en : Int)] 60)) (W.heap.size + 1) #[.int .i64 0, .int .i64 0, .string ⟨#[]⟩, .int .i64 0, .int .i64 0] 60 := (Box.at (by simp)).alloc _
    have hO0 : Box (((W.alloc (.cells #[.iface 137 (.int .i64 (n : Int)), .int .i64 (a : Int), .int .i64 (en : Int)] 78)).alloc (.cells #[.int .i64 0, .int .i64 0, .string ⟨#[]⟩, .int .i64 0, .int .i64 0] 60)).alloc (.cells #[.int .i64 0, .int .i64 0, .string ⟨#[]⟩, .int .i64 (a : Int), .int .i64 (en : Int)] 60)) (W.heap.size + 2) #[.int .i64 0, .int .i64 0, .string ⟨#[]⟩, .int .i64 (a : Int), .int .i64 (en : Int)] 60 := Box.at (by simp)
    have H0 := Lib.hid (And.intro hA (And.intro hR0 hO0))
    have p0 := hP0.cell 0
    have r0 := hR0.cell 0
    have r1 := hR0.cell 1
    have r2 := hR0.cell 2
    have r3 := hR0.cell 3
    have r4 := hR0.cell 4
    have zr0 := hR0.frozen 0
    have zr1 := hR0.frozen 1
    have zr2 := hR0.frozen 2
    have zr3 := hR0.frozen 3
    have zr4 := hR0.frozen 4
    have lr := hR0.lt
    have q0 := hO0.cell 0
    have q1 := hO0.cell 1
    have q2 := hO0.cell 2
    have q3 := hO0.cell 3
    have q4 := hO0.cell 4
    have zq0 := hO0.frozen 0
    have zq1 := hO0.frozen 1
    have zq2 := hO0.frozen 2
    have zq3 := hO0.frozen 3
    have zq4 := hO0.frozen 4
    have lq := hO0.lt
    have lp := hP0.lt
    simp only [List.getElem?_toArray, List.getElem?_cons_succ, List.getElem?_cons_zero] at p0 r0 r1 r2 r3 r4 q0 q1 q2 q3 q4
    clear hA hP0 hR0 hO0
    generalize hW3 : (((W.alloc (.cells #[.iface 137 (.int .i64 (n : Int)), .int .i64 (a : Int), .int .i64 (en : Int)] 78)).alloc (.cells #[.int .i64 0, .int .i64 0, .string ⟨#[]⟩, .int .i64 0, .int .i64 0] 60)).alloc (.cells #[.int .i64 0, .int .i64 0, .string ⟨#[]⟩, .int .i64 (a : Int), .int .i64 (en : Int)] 60)) = X at *
    go_enter Tryz.func59, Tryz.ntmps59
    go_wp2_with fail
    have hbR0 := (H0.out.2.1.other (show W.heap.size + 1 ≠ W.heap.size + 2 by omega) 0 (.int .i64 4)).other (show W.heap.size + 1 ≠ W.heap.size + 2 by omega) 1 (.int .i64 (n : Int))
    have hbR := ((((hbR0.set 0 (.int .i64 4)).set 1 (.int .i64 (n : Int))).set 2 (.string ⟨#[]⟩)).set 3 (.int .i64 (a : Int))).set 4 (.int .i64 (en : Int))
    have hbel := ((((((H0.out.1.setCell (p := ⟨W.heap.size + 2, 0, none⟩) (by show W.heap.size ≤ W.heap.size + 2; omega) (.int .i64 4)).setCell (p := ⟨W.heap.size + 2, 1, none⟩) (by show W.heap.size ≤ W.heap.size + 2; omega) (.int .i64 (n : Int))).setCell (p := ⟨W.heap.size + 1, 0, none⟩) (by show W.heap.size ≤ W.heap.size + 1; omega) (.int .i64 4)).setCell (p := ⟨W.heap.size + 1, 1, none⟩) (by show W.heap.size ≤ W.heap.size + 1; omega) (.int .i64 (n : Int))).setCell (p := ⟨W.heap.size + 1, 2, none⟩) (by show W.heap.size ≤ W.heap.size + 1; omega) (.string ⟨#[]⟩)).setCell (p := ⟨W.heap.size + 1, 3, none⟩) (by show W.heap.size ≤ W.heap.size + 1; omega) (.int .i64 (a : Int))).setCell (p := ⟨W.heap.size + 1, 4, none⟩) (by show W.heap.size ≤ W.heap.size + 1; omega) (.int .i64 (en : Int))
    generalize (((((((X.setCell ⟨W.heap.size + 2, 0, none⟩ (.int .i64 4)).setCell ⟨W.heap.size + 2, 1, none⟩ (.int .i64 (n : Int))).setCell ⟨W.heap.size + 1, 0, none⟩ (.int .i64 4)).setCell ⟨W.heap.size + 1, 1, none⟩ (.int .i64 (n : Int))).setCell ⟨W.heap.size + 1, 2, none⟩ (.string ⟨#[]⟩)).setCell ⟨W.heap.size + 1, 3, none⟩ (.int .i64 (a : Int))).setCell ⟨W.heap.size + 1, 4, none⟩ (.int .i64 (en : Int))) = FW at *
    have y0 := hbR.cell 0
    have y1 := hbR.cell 1
    have y2 := hbR.cell 2
    have y3 := hbR.cell 3
    have y4 := hbR.cell 4
    simp only [List.setIfInBounds_toArray, List.set_cons_zero, List.set_cons_succ, List.getElem?_toArray, List.getElem?_cons_succ, List.getElem?_cons_zero] at y0 y1 y2 y3 y4
    exact bodyPost_ret (v := .agg #[.int .i64 4, .int .i64 (n : Int), .string ⟨#[]⟩, .int .i64 (a : Int), .int .i64 (en : Int)]) (by simp [results, Tryz.results59, go_sem, y0, y1, y2, y3, y4]) rfl ⟨by rw [HP.out], hbel⟩
  | str =>
    have HP : Hid ((.agg (lxV ⟨⟨.str, s, n⟩, a, en⟩).toArray : Value) = .agg #[.int .i64 5, .int .i64 0, sV s, .int .i64 (a : Int), .int .i64 (en : Int)]) := rfl
    have ta0 := ta_any .name (some ⟨.str, s, n⟩)
    have ta1 := ta_any .quoted (some ⟨.str, s, n⟩)
    have ta2 := ta_any .var (some ⟨.str, s, n⟩)
    have ta3 := ta_any .int (some ⟨.str, s, n⟩)
    have ta4 := ta_any .str (some ⟨.str, s, n⟩)
    simp only [tokO, tokV, kTy, taV, taB, payV, reduceCtorEq, if_false, if_true, decide_true, decide_false] at ta0 ta1 ta2 ta3 ta4
    simp only [tokV]
    have hA := below_a3 (Nat.le_refl W.heap.size) (.cells #[.iface 138 (sV s), .int .i64 (a : Int), .int .i64 (en : Int)] 78) (.cells #[.int .i64 0, .int .i64 0, .string ⟨#[]⟩, .int .i64 0, .int .i64 0] 60) (.cells #[.int .i64 0, .int .i64 0, .string ⟨#[]⟩, .int .i64 (a : Int), .int .i64 (en : Int)] 60)
    have hP0 : Box (((W.alloc (.cells #[.iface 138 (sV s), .int .i64 (a : Int), .int .i64 (en : Int)] 78)).alloc (.cells #[.int .i64 0, .int .i64 0, .string ⟨#[]⟩, .int .i64 0, .int .i64 0] 60)).alloc (.cells #[.int .i64 0, .int .i64 0, .string ⟨#[]⟩, .int .i64 (a : Int), .int .i64 (en : Int)] 60)) W.heap.size #[.iface 138 (sV s), .int .i64 (a : Int), .int .i64 (en : Int)] 78 := ((Box.at rfl).alloc _).alloc _
    have hR0 : Box (((W.alloc (.cells #[.iface 138 (sV s), .int .i64 (a : Int), .int .i64 (en : Int)] 78)).alloc (.cells #[.int .i64 0, .int .i64 0, .string ⟨#[]⟩, .int .i64 0, .int .i64 0] 60)).alloc (.cells #[.int .i64 0, .int .i64 0, .string ⟨#[]⟩, .int .i64 (a : Int), .int .i64 (en : Int)] 60)) (W.heap.size + 1) #[.int .i64 0, .int .i64 0, .string ⟨#[]⟩, .int .i64 0, .int .i64 0] 60 := (Box.at (by simp)).alloc _
    have hO0 : Box (((W.alloc (.cells #[.iface 138 (sV s), .int .i64 (a : Int), .int .i64 (en : Int)] 78)).alloc (.cells #[.int .i64 0, .int .i64 0, .string ⟨#[]⟩, .int .i64 0, .int .i64 0] 60)).alloc (.cells #[.int .i64 0, .int .i64 0, .string ⟨#[]⟩, .int .i64 (a : Int), .int .i64 (en : Int)] 60)) (W.heap.size + 2) #[.int .i64 0, .int .i64 0, .string ⟨#[]⟩, .int .i64 (a : Int), .int .i64 (en : Int)] 60 := Box.at (by simp)
    have H0 := Lib.hid (And.intro hA (And.intro hR0 hO0))
    have p0 := hP0.cell 0
    have r0 := hR0.cell 0
    have r1 := hR0.cell 1
    have r2 := hR0.cell 2
    have r3 := hR0.cell 3
    have r4 := hR0.cell 4
    have zr0 := hR0.frozen 0
    have zr1 := hR0.frozen 1
    have zr2 := hR0.frozen 2
    have zr3 := hR0.frozen 3
    have zr4 := hR0.frozen 4
    have lr := hR0.lt
    have q0 := hO0.cell 0
    have q1 := hO0.cell 1
    have q2 := hO0.cell 2
    have q3 := hO0.cell 3
    have q4 := hO0.cell 4
    have zq0 := hO0.frozen 0
    have zq1 := hO0.frozen 1
    have zq2 := hO0.frozen 2
    have zq3 := hO0.frozen 3
    have zq4 := hO0.frozen 4
    have lq := hO0.lt
    have lp := hP0.lt
    simp only [List.getElem?_toArray, List.getElem?_cons_succ, List.getElem?_cons_zero] at p0 r0 r1 r2 r3 r4 q0 q1 q2 q3 q4
    clear hA hP0 hR0 hO0
    generalize hW3 : (((W.alloc (.cells #[.iface 138 (sV s), .int .i64 (a : Int), .int .i64 (en : Int)] 78)).alloc (.cells #[.int .i64 0, .int .i64 0, .string ⟨#[]⟩, .int .i64 0, .int .i64 0] 60)).alloc (.cells #[.int .i64 0, .int .i64 0, .string ⟨#[]⟩, .int .i64 (a : Int), .int .i64 (en : Int)] 60)) = X at *
    go_enter Tryz.func59, Tryz.ntmps59
    go_wp2_with fail
    have hbR0 := (H0.out.2.1.other (show W.heap.size + 1 ≠ W.heap.size + 2 by omega) 0 (.int .i64 5)).other (show W.heap.size + 1 ≠ W.heap.size + 2 by omega) 2 (sV s)
    have hbR := ((((hbR0.set 0 (.int .i64 5)).set 1 (.int .i64 0)).set 2 (sV s)).set 3 (.int .i64 (a : Int))).set 4 (.int .i64 (en : Int))
    have hbel := ((((((H0.out.1.setCell (p := ⟨W.heap.size + 2, 0, none⟩) (by show W.heap.size ≤ W.heap.size + 2; omega) (.int .i64 5)).setCell (p := ⟨W.heap.size + 2, 2, none⟩) (by show W.heap.size ≤ W.heap.size + 2; omega) (sV s)).setCell (p := ⟨W.heap.size + 1, 0, none⟩) (by show W.heap.size ≤ W.heap.size + 1; omega) (.int .i64 5)).setCell (p := ⟨W.heap.size + 1, 1, none⟩) (by show W.heap.size ≤ W.heap.size + 1; omega) (.int .i64 0)).setCell (p := ⟨W.heap.size + 1, 2, none⟩) (by show W.heap.size ≤ W.heap.size + 1; omega) (sV s)).setCell (p := ⟨W.heap.size + 1, 3, none⟩) (by show W.heap.size ≤ W.heap.size + 1; omega) (.int .i64 (a : Int))).setCell (p := ⟨W.heap.size + 1, 4, none⟩) (by show W.heap.size ≤ W.heap.size + 1; omega) (.int .i64 (en : Int))
    generalize (((((((X.setCell ⟨W.heap.size + 2, 0, none⟩ (.int .i64 5)).setCell ⟨W.heap.size + 2, 2, none⟩ (sV s)).setCell ⟨W.heap.size + 1, 0, none⟩ (.int .i64 5)).setCell ⟨W.heap.size + 1, 1, none⟩ (.int .i64 0)).setCell ⟨W.heap.size + 1, 2, none⟩ (sV s)).setCell ⟨W.heap.size + 1, 3, none⟩ (.int .i64 (a : Int))).setCell ⟨W.heap.size + 1, 4, none⟩ (.int .i64 (en : Int))) = FW at *
    have y0 := hbR.cell 0
    have y1 := hbR.cell 1
    have y2 := hbR.cell 2
    have y3 := hbR.cell 3
    have y4 := hbR.cell 4
    simp only [List.setIfInBounds_toArray, List.set_cons_zero, List.set_cons_succ, List.getElem?_toArray, List.getElem?_cons_succ, List.getElem?_cons_zero] at y0 y1 y2 y3 y4
    exact bodyPost_ret (v := .agg #[.int .i64 5, .int .i64 0, sV s, .int .i64 (a : Int), .int .i64 (en : Int)]) (by simp [results, Tryz.results59, go_sem, y0, y1, y2, y3, y4]) rfl ⟨by rw [HP.out], hbel⟩
  | sign =>
    have HP : Hid ((.agg (lxV ⟨⟨.sign, s, n⟩, a, en⟩).toArray : Value) = .agg #[.int .i64 6, .int .i64 0, sV s, .int .i64 (a : Int), .int .i64 (en : Int)]) := rfl
    have ta0 := ta_any .name (some ⟨.sign, s, n⟩)
    have ta1 := ta_any .quoted (some ⟨.sign, s, n⟩)
    have ta2 := ta_any .var (some ⟨.sign, s, n⟩)
    have ta3 := ta_any .int (some ⟨.sign, s, n⟩)
    have ta4 := ta_any .str (some ⟨.sign, s, n⟩)
    have ta5 := ta_any .sign (some ⟨.sign, s, n⟩)
    simp only [tokO, tokV, kTy, taV, taB, payV, reduceCtorEq, if_false, if_true, decide_true, decide_false] at ta0 ta1 ta2 ta3 ta4 ta5
    simp only [tokV]
    have hA := below_a3 (Nat.le_refl W.heap.size) (.cells #[.iface 139 (sV s), .int .i64 (a : Int), .int .i64 (en : Int)] 78) (.cells #[.int .i64 0, .int .i64 0, .string ⟨#[]⟩, .int .i64 0, .int .i64 0] 60) (.cells #[.int .i64 0, .int .i64 0, .string ⟨#[]⟩, .int .i64 (a : Int), .int .i64 (en : Int)] 60)
    have hP0 : Box (((W.alloc (.cells #[.iface 139 (sV s), .int .i64 (a : Int), .int .i64 (en : Int)] 78)).alloc (.cells #[.int .i64 0, .int .i64 0, .string ⟨#[]⟩, .int .i64 0, .int .i64 0] 60)).alloc (.cells #[.int .i64 0, .int .i64 0, .string ⟨#[]⟩, .int .i64 (a : Int), .int .i64 (en : Int)] 60)) W.heap.size #[.iface 139 (sV s), .int .i64 (a : Int), .int .i64 (en : Int)] 78 := ((Box.at rfl).alloc _).alloc _
    have hR0 : Box (((W.alloc (.cells #[.iface 139 (sV s), .int .i64 (a : Int), .int .i64 (en : Int)] 78)).alloc (.cells #[.int .i64 0, .int .i64 0, .string ⟨#[]⟩, .int .i64 0, .int .i64 0] 60)).alloc (.cells #[.int .i64 0, .int .i64 0, .string ⟨#[]⟩, .int .i64 (a : Int), .int .i64 (en : Int)] 60)) (W.heap.size + 1) #[.int .i64 0, .int .i64 0, .string ⟨#[]⟩, .int .i64 0, .int .i64 0] 60 := (Box.at (by simp)).alloc _
    have hO0 : Box (((W.alloc (.cells #[.iface 139 (sV s), .int .i64 (a : Int), .int .i64 (en : Int)] 78)).alloc (.cells #[.int .i64 0, .int .i64 0, .string ⟨#[]⟩, .int .i64 0, .int .i64 0] 60)).alloc (.cells #[.int .i64 0, .int .i64 0, .string ⟨#[]⟩, .int .i64 (a : Int), .int .i64 (en : Int)] 60)) (W.heap.size + 2) #[.int .i64 0, .int .i64 0, .string ⟨#[]⟩, .int .i64 (a : Int), .int .i64 (en : Int)] 60 := Box.at (by simp)
    have H0 := Lib.hid (And.intro hA (And.intro hR0 hO0))
    have p0 := hP0.cell 0
    have r0 := hR0.cell 0
    have r1 := hR0.cell 1
    have r2 := hR0.cell 2
    have r3 := hR0.cell 3
    have r4 := hR0.cell 4
    have zr0 := hR0.frozen 0
    have zr1 := hR0.frozen 1
    have zr2 := hR0.frozen 2
    have zr3 := hR0.frozen 3
    have zr4 := hR0.frozen 4
    have lr := hR0.lt
    have q0 := hO0.cell 0
    have q1 := hO0.cell 1
    have q2 := hO0.cell 2
    have q3 := hO0.cell 3
    have q4 := hO0.cell 4
    have zq0 := hO0.frozen 0
    have zq1 := hO0.frozen 1
    have zq2 := hO0.frozen 2
    have zq3 := hO0.frozen 3
    have zq4 := hO0.frozen 4
    have lq := hO0.lt
    have lp := hP0.lt
    simp only [List.getElem?_toArray, List.getElem?_cons_succ, List.getElem?_cons_zero] at p0 r0 r1 r2 r3 r4 q0 q1 q2 q3 q4
    clear hA hP0 hR0 hO0
    generalize hW3 : (((W.alloc (.cells #[.iface 139 (sV s), .int .i64 (a : Int), .int .i64 (en : Int)] 78)).alloc (.cells #[.int .i64 0, .int .i64 0, .string ⟨#[]⟩, .int .i64 0, .int .i64 0] 60)).alloc (.cells #[.int .i64 0, .int .i64 0, .string ⟨#[]⟩, .int .i64 (a : Int), .int .i64 (en : Int)] 60)) = X at *
    go_enter Tryz.func59, Tryz.ntmps59
    go_wp2_with fail
    have hbR0 := (H0.out.2.1.other (show W.heap.size + 1 ≠ W.heap.size + 2 by omega) 0 (.int .i64 6)).other (show W.heap.size + 1 ≠ W.heap.size + 2 by omega) 2 (sV s)
    have hbR := ((((hbR0.set 0 (.int .i64 6)).set 1 (.int .i64 0)).set 2 (sV s)).set 3 (.int .i64 (a : Int))).set 4 (.int .i64 (en : Int))
    have hbel := ((((((H0.out.1.setCell (p := ⟨W.heap.size + 2, 0, none⟩) (by show W.heap.size ≤ W.heap.size + 2; omega) (.int .i64 6)).setCell (p := ⟨W.heap.size + 2, 2, none⟩) (by show W.heap.size ≤ W.heap.size + 2; omega) (sV s)).setCell (p := ⟨W.heap.size + 1, 0, none⟩) (by show W.heap.size ≤ W.heap.size + 1; omega) (.int .i64 6)).setCell (p := ⟨W.heap.size + 1, 1, none⟩) (by show W.heap.size ≤ W.heap.size + 1; omega) (.int .i64 0)).setCell (p := ⟨W.heap.size + 1, 2, none⟩) (by show W.heap.size ≤ W.heap.size + 1; omega) (sV s)).setCell (p := ⟨W.heap.size + 1, 3, none⟩) (by show W.heap.size ≤ W.heap.size + 1; omega) (.int .i64 (a : Int))).setCell (p := ⟨W.heap.size + 1, 4, none⟩) (by show W.heap.size ≤ W.heap.size + 1; omega) (.int .i64 (en : Int))
    generalize (((((((X.setCell ⟨W.heap.size + 2, 0, none⟩ (.int .i64 6)).setCell ⟨W.heap.size + 2, 2, none⟩ (sV s)).setCell ⟨W.heap.size + 1, 0, none⟩ (.int .i64 6)).setCell ⟨W.heap.size + 1, 1, none⟩ (.int .i64 0)).setCell ⟨W.heap.size + 1, 2, none⟩ (sV s)).setCell ⟨W.heap.size + 1, 3, none⟩ (.int .i64 (a : Int))).setCell ⟨W.heap.size + 1, 4, none⟩ (.int .i64 (en : Int))) = FW at *
    have y0 := hbR.cell 0
    have y1 := hbR.cell 1
    have y2 := hbR.cell 2
    have y3 := hbR.cell 3
    have y4 := hbR.cell 4
    simp only [List.setIfInBounds_toArray, List.set_cons_zero, List.set_cons_succ, List.getElem?_toArray, List.getElem?_cons_succ, List.getElem?_cons_zero] at y0 y1 y2 y3 y4
    exact bodyPost_ret (v := .agg #[.int .i64 6, .int .i64 0, sV s, .int .i64 (a : Int), .int .i64 (en : Int)]) (by simp [results, Tryz.results59, go_sem, y0, y1, y2, y3, y4]) rfl ⟨by rw [HP.out], hbel⟩
  | fin =>
    have HP : Hid ((.agg (lxV ⟨⟨.fin, s, n⟩, a, en⟩).toArray : Value) = .agg #[.int .i64 7, .int .i64 0, sV s, .int .i64 (a : Int), .int .i64 (en : Int)]) := rfl
    have ta0 := ta_any .name (some ⟨.fin, s, n⟩)
    have ta1 := ta_any .quoted (some ⟨.fin, s, n⟩)
    have ta2 := ta_any .var (some ⟨.fin, s, n⟩)
    have ta3 := ta_any .int (some ⟨.fin, s, n⟩)
    have ta4 := ta_any .str (some ⟨.fin, s, n⟩)
    have ta5 := ta_any .sign (some ⟨.fin, s, n⟩)
    have ta6 := ta_any .fin (some ⟨.fin, s, n⟩)
    simp only [tokO, tokV, kTy, taV, taB, payV, reduceCtorEq, if_false, if_true, decide_true, decide_false] at ta0 ta1 ta2 ta3 ta4 ta5 ta6
    simp only [tokV]
    have hA := below_a3 (Nat.le_refl W.heap.size) (.cells #[.iface 140 (sV s), .int .i64 (a : Int), .int .i64 (en : Int)] 78) (.cells #[.int .i64 0, .int .i64 0, .string ⟨#[]⟩, .int .i64 0, .int .i64 0] 60) (.cells #[.int .i64 0, .int .i64 0, .string ⟨#[]⟩, .int .i64 (a : Int), .int .i64 (en : Int)] 60)
    have hP0 : Box (((W.alloc (.cells #[.iface 140 (sV s), .int .i64 (a : Int), .int .i64 (en : Int)] 78)).alloc (.cells #[.int .i64 0, .int .i64 0, .string ⟨#[]⟩, .int .i64 0, .int .i64 0] 60)).alloc (.cells #[.int .i64 0, .int .i64 0, .string ⟨#[]⟩, .int .i64 (a : Int), .int .i64 (en : Int)] 60)) W.heap.size #[.iface 140 (sV s), .int .i64 (a : Int), .int .i64 (en : Int)] 78 := ((Box.at rfl).alloc _).alloc _
    have hR0 : Box (((W.alloc (.cells #[.iface 140 (sV s), .int .i64 (a : Int), .int .i64 (en : Int)] 78)).alloc (.cells #[.int .i64 0, .int .i64 0, .string ⟨#[]⟩, .int .i64 0, .int .i64 0] 60)).alloc (.cells #[.int .i64 0, .int .i64 0, .string ⟨#[]⟩, .int .i64 (a : Int), .int .i64 (en : Int)] 60)) (W.heap.size + 1) #[.int .i64 0, .int .i64 0, .string ⟨#[]⟩, .int .i64 0, .int .i64 0] 60 := (Box.at (by simp)).alloc _
    have hO0 : Box (((W.alloc (.cells #[.iface 140 (sV s), .int .i64 (a : Int), .int .i64 (en : Int)] 78)).alloc (.cells #[.int .i64 0, .int .i64 0, .string ⟨#[]⟩, .int .i64 0, .int .i64 0] 60)).alloc (.cells #[.int .i64 0, .int .i64 0, .string ⟨#[]⟩, .int .i64 (a : Int), .int .i64 (en : Int)] 60)) (W.heap.size + 2) #[.int .i64 0, .int .i64 0, .string ⟨#[]⟩, .int .i64 (a : Int), .int .i64 (en : Int)] 60 := Box.at (by simp)
    have H0 := Lib.hid (And.intro hA (And.intro hR0 hO0))
    have p0 := hP0.cell 0
    have r0 := hR0.cell 0
    have r1 := hR0.cell 1
    have r2 := hR0.cell 2
    have r3 := hR0.cell 3
    have r4 := hR0.cell 4
    have zr0 := hR0.frozen 0
    have zr1 := hR0.frozen 1
    have zr2 := hR0.frozen 2
    have zr3 := hR0.frozen 3
    have zr4 := hR0.frozen 4
    have lr := hR0.lt
    have q0 := hO0.cell 0
    have q1 := hO0.cell 1
    have q2 := hO0.cell 2
    have q3 := hO0.cell 3
    have q4 := hO0.cell 4
    have zq0 := hO0.frozen 0
    have zq1 := hO0.frozen 1
    have zq2 := hO0.frozen 2
    have zq3 := hO0.frozen 3
    have zq4 := hO0.frozen 4
    have lq := hO0.lt
    have lp := hP0.lt
    simp only [List.getElem?_toArray, List.getElem?_cons_succ, List.getElem?_cons_zero] at p0 r0 r1 r2 r3 r4 q0 q1 q2 q3 q4
    clear hA hP0 hR0 hO0
    generalize hW3 : (((W.alloc (.cells #[.iface 140 (sV s), .int .i64 (a : Int), .int .i64 (en : Int)] 78)).alloc (.cells #[.int .i64 0, .int .i64 0, .string ⟨#[]⟩, .int .i64 0, .int .i64 0] 60)).alloc (.cells #[.int .i64 0, .int .i64 0, .string ⟨#[]⟩, .int .i64 (a : Int), .int .i64 (en : Int)] 60)) = X at *
    go_enter Tryz.func59, Tryz.ntmps59
    go_wp2_with fail
    have hbR0 := (H0.out.2.1.other (show W.heap.size + 1 ≠ W.heap.size + 2 by omega) 0 (.int .i64 7)).other (show W.heap.size + 1 ≠ W.heap.size + 2 by omega) 2 (sV s)
    have hbR := ((((hbR0.set 0 (.int .i64 7)).set 1 (.int .i64 0)).set 2 (sV s)).set 3 (.int .i64 (a : Int))).set 4 (.int .i64 (en : Int))
    have hbel := ((((((H0.out.1.setCell (p := ⟨W.heap.size + 2, 0, none⟩) (by show W.heap.size ≤ W.heap.size + 2; omega) (.int .i64 7)).setCell (p := ⟨W.heap.size + 2, 2, none⟩) (by show W.heap.size ≤ W.heap.size + 2; omega) (sV s)).setCell (p := ⟨W.heap.size + 1, 0, none⟩) (by show W.heap.size ≤ W.heap.size + 1; omega) (.int .i64 7)).setCell (p := ⟨W.heap.size + 1, 1, none⟩) (by show W.heap.size ≤ W.heap.size + 1; omega) (.int .i64 0)).setCell (p := ⟨W.heap.size + 1, 2, none⟩) (by show W.heap.size ≤ W.heap.size + 1; omega) (sV s)).setCell (p := ⟨W.heap.size + 1, 3, none⟩) (by show W.heap.size ≤ W.heap.size + 1; omega) (.int .i64 (a : Int))).setCell (p := ⟨W.heap.size + 1, 4, none⟩) (by show W.heap.size ≤ W.heap.size + 1; omega) (.int .i64 (en : Int))
    generalize (((((((X.setCell ⟨W.heap.size + 2, 0, none⟩ (.int .i64 7)).setCell ⟨W.heap.size + 2, 2, none⟩ (sV s)).setCell ⟨W.heap.size + 1, 0, none⟩ (.int .i64 7)).setCell ⟨W.heap.size + 1, 1, none⟩ (.int .i64 0)).setCell ⟨W.heap.size + 1, 2, none⟩ (sV s)).setCell ⟨W.heap.size + 1, 3, none⟩ (.int .i64 (a : Int))).setCell ⟨W.heap.size + 1, 4, none⟩ (.int .i64 (en : Int))) = FW at *
    have y0 := hbR.cell 0
    have y1 := hbR.cell 1
    have y2 := hbR.cell 2
    have y3 := hbR.cell 3
    have y4 := hbR.cell 4
    simp only [List.setIfInBounds_toArray, List.set_cons_zero, List.set_cons_succ, List.getElem?_toArray, List.getElem?_cons_succ, List.getElem?_cons_zero] at y0 y1 y2 y3 y4
    exact bodyPost_ret (v := .agg #[.int .i64 7, .int .i64 0, sV s, .int .i64 (a : Int), .int .i64 (en : Int)]) (by simp [results, Tryz.results59, go_sem, y0, y1, y2, y3, y4]) rfl ⟨by rw [HP.out], hbel⟩
end Go.Proofs.YthfciekhmbfmfaaGreatDoor
