/- attempt: what was thrown is told. -/
import Derived.WalkKit
import Derived.Defers
import Derived.Recover
import Derived.Test.YthfciekhmbfmfaaGreatDoorParA
import Derived.Test.YthfciekhmbfmfaaGreatDoorLexO
namespace Go.Proofs.YthfciekhmbfmfaaGreatDoor
open Go.RowKit Go

theorem eql_wrong (a e : Int) (w : World) : (binOp .eql 20 (.iface 125 (.agg #[.int .i64 a, .int .i64 e])) .nilIface).run Tryz.prog w = .ok (.bool false) w := by kernel_rfl
theorem eql_nilI (w : World) : (binOp .eql 20 .nilIface .nilIface).run Tryz.prog w = .ok (.bool true) w := by kernel_rfl
theorem ta_wrong (a e : Int) (w : World) : (Instr.typeAssert (.iface 125 (.agg #[.int .i64 a, .int .i64 e])) 20 125 true).run Tryz.prog w = .ok (.tuple #[.agg #[.int .i64 a, .int .i64 e], .bool true]) w := by kernel_rfl
/-- The world behind the closure that has told an error. -/
def toldW (w : World) (P Q : Nat) (a e : Int) : World := (((w.setCell ⟨P, 0, none⟩ (.int .i64 a)).setCell ⟨Q, 0, none⟩ (.int .i64 e)).alloc (.cells #[.int .i64 a, .int .i64 e] 125)).drew
set_option maxRecDepth 100000 in
set_option maxHeartbeats 4000000 in
theorem catchLex_panicking (P Q : Nat) (a e : Int) (older : List PanicEntry) (w : World) (x y : Value) (hp : w.cell? ⟨P, 0, none⟩ = some x) (hz : w.frozen? ⟨P, 0, none⟩ = false) (hq : w.cell? ⟨Q, 0, none⟩ = some y) (hy : w.frozen? ⟨Q, 0, none⟩ = false) (hpq : P ≠ Q) (hpq2 : Q ≠ P) (h1 : P < w.heap.size) (h2 : Q < w.heap.size) :
    CallsD Tryz.prog 96 #[.pointer (some ⟨P, 0, none⟩), .pointer (some ⟨Q, 0, none⟩)] (.panicking ({ v := .iface 125 (.agg #[.int .i64 a, .int .i64 e]), recovered := false } :: older)) w fun en u' w' =>
      en = .returned (.tuple #[]) ∧ u' = .panicking ({ v := .iface 125 (.agg #[.int .i64 a, .int .i64 e]), recovered := true } :: older) ∧ w' = toldW w P Q a e := by
  have hta := ta_wrong a e
  have heq := eql_wrong a e
  refine callsD_of_wpS Tryz.func96 rfl fun c₀ cs hu => ?_
  simp only [Tryz.ntmps96, List.size_toArray, List.length_cons, List.length_nil, Nat.reduceAdd, Nat.reduceSub, Array.replicate_succ, Array.replicate_zero, List.push_toArray, List.append_toArray, List.nil_append, List.cons_append]
  apply wpS_seq
  apply wpS_region
  simp [wpOpsS, go_sem, recoverD, hu, Exit.thenS]
  refine wpS_of_wp ?_
  go_wp2_with fail
  go_region
  go_wp2_with fail
  exact ⟨rfl, _, rfl, .tuple #[], by simp [results, Tryz.results96, go_sem], rfl, rfl, rfl⟩
set_option maxRecDepth 100000 in
set_option maxHeartbeats 4000000 in
theorem catchLex_idle (P Q : Nat) (w : World) : CallsD Tryz.prog 96 #[.pointer (some ⟨P, 0, none⟩), .pointer (some ⟨Q, 0, none⟩)] .returning w fun en u' w' => en = .returned (.tuple #[]) ∧ u' = .returning ∧ w' = w := by
  have heq := eql_nilI
  refine callsD_of_wpS Tryz.func96 rfl fun c₀ cs hu => ?_
  simp only [Tryz.ntmps96, List.size_toArray, List.length_cons, List.length_nil, Nat.reduceAdd, Nat.reduceSub, Array.replicate_succ, Array.replicate_zero, List.push_toArray, List.append_toArray, List.nil_append, List.cons_append]
  apply wpS_seq
  apply wpS_region
  simp [wpOpsS, go_sem, recoverD, hu, Exit.thenS]
  refine wpS_of_wp ?_
  go_wp2_with fail
  refine ⟨rfl, .returning, ?_, .tuple #[], by simp [results, Tryz.results96, go_sem], rfl, rfl, rfl⟩
  cases c₀
  simp_all
set_option maxRecDepth 100000 in
set_option maxHeartbeats 4000000 in
theorem catchRd_panicking (P Q : Nat) (a e : Int) (older : List PanicEntry) (w : World) (x y : Value) (hp : w.cell? ⟨P, 0, none⟩ = some x) (hz : w.frozen? ⟨P, 0, none⟩ = false) (hq : w.cell? ⟨Q, 0, none⟩ = some y) (hy : w.frozen? ⟨Q, 0, none⟩ = false) (hpq : P ≠ Q) (hpq2 : Q ≠ P) (h1 : P < w.heap.size) (h2 : Q < w.heap.size) :
    CallsD Tryz.prog 109 #[.pointer (some ⟨P, 0, none⟩), .pointer (some ⟨Q, 0, none⟩)] (.panicking ({ v := .iface 125 (.agg #[.int .i64 a, .int .i64 e]), recovered := false } :: older)) w fun en u' w' =>
      en = .returned (.tuple #[]) ∧ u' = .panicking ({ v := .iface 125 (.agg #[.int .i64 a, .int .i64 e]), recovered := true } :: older) ∧ w' = toldW w P Q a e := by
  have hta := ta_wrong a e
  have heq := eql_wrong a e
  refine callsD_of_wpS Tryz.func109 rfl fun c₀ cs hu => ?_
  simp only [Tryz.ntmps109, List.size_toArray, List.length_cons, List.length_nil, Nat.reduceAdd, Nat.reduceSub, Array.replicate_succ, Array.replicate_zero, List.push_toArray, List.append_toArray, List.nil_append, List.cons_append]
  apply wpS_seq
  apply wpS_region
  simp [wpOpsS, go_sem, recoverD, hu, Exit.thenS]
  refine wpS_of_wp ?_
  go_wp2_with fail
  go_region
  go_wp2_with fail
  exact ⟨rfl, _, rfl, .tuple #[], by simp [results, Tryz.results109, go_sem], rfl, rfl, rfl⟩
set_option maxRecDepth 100000 in
set_option maxHeartbeats 4000000 in
theorem catchRd_idle (P Q : Nat) (w : World) : CallsD Tryz.prog 109 #[.pointer (some ⟨P, 0, none⟩), .pointer (some ⟨Q, 0, none⟩)] .returning w fun en u' w' => en = .returned (.tuple #[]) ∧ u' = .returning ∧ w' = w := by
  have heq := eql_nilI
  refine callsD_of_wpS Tryz.func109 rfl fun c₀ cs hu => ?_
  simp only [Tryz.ntmps109, List.size_toArray, List.length_cons, List.length_nil, Nat.reduceAdd, Nat.reduceSub, Array.replicate_succ, Array.replicate_zero, List.push_toArray, List.append_toArray, List.nil_append, List.cons_append]
  apply wpS_seq
  apply wpS_region
  simp [wpOpsS, go_sem, recoverD, hu, Exit.thenS]
  refine wpS_of_wp ?_
  go_wp2_with fail
  refine ⟨rfl, .returning, ?_, .tuple #[], by simp [results, Tryz.results109, go_sem], rfl, rfl, rfl⟩
  cases c₀
  simp_all
set_option maxRecDepth 100000 in
set_option maxHeartbeats 4000000 in
theorem catchTs_panicking (P Q : Nat) (a e : Int) (older : List PanicEntry) (w : World) (x y : Value) (hp : w.cell? ⟨P, 0, none⟩ = some x) (hz : w.frozen? ⟨P, 0, none⟩ = false) (hq : w.cell? ⟨Q, 0, none⟩ = some y) (hy : w.frozen? ⟨Q, 0, none⟩ = false) (hpq : P ≠ Q) (hpq2 : Q ≠ P) (h1 : P < w.heap.size) (h2 : Q < w.heap.size) :
    CallsD Tryz.prog 113 #[.pointer (some ⟨P, 0, none⟩), .pointer (some ⟨Q, 0, none⟩)] (.panicking ({ v := .iface 125 (.agg #[.int .i64 a, .int .i64 e]), recovered := false } :: older)) w fun en u' w' =>
      en = .returned (.tuple #[]) ∧ u' = .panicking ({ v := .iface 125 (.agg #[.int .i64 a, .int .i64 e]), recovered := true } :: older) ∧ w' = toldW w P Q a e := by
  have hta := ta_wrong a e
  have heq := eql_wrong a e
  refine callsD_of_wpS Tryz.func113 rfl fun c₀ cs hu => ?_
  simp only [Tryz.ntmps113, List.size_toArray, List.length_cons, List.length_nil, Nat.reduceAdd, Nat.reduceSub, Array.replicate_succ, Array.replicate_zero, List.push_toArray, List.append_toArray, List.nil_append, List.cons_append]
  apply wpS_seq
  apply wpS_region
  simp [wpOpsS, go_sem, recoverD, hu, Exit.thenS]
  refine wpS_of_wp ?_
  go_wp2_with fail
  go_region
  go_wp2_with fail
  exact ⟨rfl, _, rfl, .tuple #[], by simp [results, Tryz.results113, go_sem], rfl, rfl, rfl⟩
set_option maxRecDepth 100000 in
set_option maxHeartbeats 4000000 in
theorem catchTs_idle (P Q : Nat) (w : World) : CallsD Tryz.prog 113 #[.pointer (some ⟨P, 0, none⟩), .pointer (some ⟨Q, 0, none⟩)] .returning w fun en u' w' => en = .returned (.tuple #[]) ∧ u' = .returning ∧ w' = w := by
  have heq := eql_nilI
  refine callsD_of_wpS Tryz.func113 rfl fun c₀ cs hu => ?_
  simp only [Tryz.ntmps113, List.size_toArray, List.length_cons, List.length_nil, Nat.reduceAdd, Nat.reduceSub, Array.replicate_succ, Array.replicate_zero, List.push_toArray, List.append_toArray, List.nil_append, List.cons_append]
  apply wpS_seq
  apply wpS_region
  simp [wpOpsS, go_sem, recoverD, hu, Exit.thenS]
  refine wpS_of_wp ?_
  go_wp2_with fail
  refine ⟨rfl, .returning, ?_, .tuple #[], by simp [results, Tryz.results113, go_sem], rfl, rfl, rfl⟩
  cases c₀
  simp_all
set_option maxRecDepth 100000 in
set_option maxHeartbeats 4000000 in
theorem catchPc_panicking (P Q : Nat) (a e : Int) (older : List PanicEntry) (w : World) (x y : Value) (hp : w.cell? ⟨P, 0, none⟩ = some x) (hz : w.frozen? ⟨P, 0, none⟩ = false) (hq : w.cell? ⟨Q, 0, none⟩ = some y) (hy : w.frozen? ⟨Q, 0, none⟩ = false) (hpq : P ≠ Q) (hpq2 : Q ≠ P) (h1 : P < w.heap.size) (h2 : Q < w.heap.size) :
    CallsD Tryz.prog 202 #[.pointer (some ⟨P, 0, none⟩), .pointer (some ⟨Q, 0, none⟩)] (.panicking ({ v := .iface 125 (.agg #[.int .i64 a, .int .i64 e]), recovered := false } :: older)) w fun en u' w' =>
      en = .returned (.tuple #[]) ∧ u' = .panicking ({ v := .iface 125 (.agg #[.int .i64 a, .int .i64 e]), recovered := true } :: older) ∧ w' = toldW w P Q a e := by
  have hta := ta_wrong a e
  have heq := eql_wrong a e
  refine callsD_of_wpS Tryz.func202 rfl fun c₀ cs hu => ?_
  simp only [Tryz.ntmps202, List.size_toArray, List.length_cons, List.length_nil, Nat.reduceAdd, Nat.reduceSub, Array.replicate_succ, Array.replicate_zero, List.push_toArray, List.append_toArray, List.nil_append, List.cons_append]
  apply wpS_seq
  apply wpS_region
  simp [wpOpsS, go_sem, recoverD, hu, Exit.thenS]
  refine wpS_of_wp ?_
  go_wp2_with fail
  go_region
  go_wp2_with fail
  exact ⟨rfl, _, rfl, .tuple #[], by simp [results, Tryz.results202, go_sem], rfl, rfl, rfl⟩
set_option maxRecDepth 100000 in
set_option maxHeartbeats 4000000 in
theorem catchPc_idle (P Q : Nat) (w : World) : CallsD Tryz.prog 202 #[.pointer (some ⟨P, 0, none⟩), .pointer (some ⟨Q, 0, none⟩)] .returning w fun en u' w' => en = .returned (.tuple #[]) ∧ u' = .returning ∧ w' = w := by
  have heq := eql_nilI
  refine callsD_of_wpS Tryz.func202 rfl fun c₀ cs hu => ?_
  simp only [Tryz.ntmps202, List.size_toArray, List.length_cons, List.length_nil, Nat.reduceAdd, Nat.reduceSub, Array.replicate_succ, Array.replicate_zero, List.push_toArray, List.append_toArray, List.nil_append, List.cons_append]
  apply wpS_seq
  apply wpS_region
  simp [wpOpsS, go_sem, recoverD, hu, Exit.thenS]
  refine wpS_of_wp ?_
  go_wp2_with fail
  refine ⟨rfl, .returning, ?_, .tuple #[], by simp [results, Tryz.results202, go_sem], rfl, rfl, rfl⟩
  cases c₀
  simp_all
end Go.Proofs.YthfciekhmbfmfaaGreatDoor

/- attempt over a reading. -/
namespace Go.Proofs.YthfciekhmbfmfaaGreatDoor
open Go.RowKit Go

/-- What attempt hands back. -/
def AtQ (w : World) (z : Value) (val : Value → World → Prop) (r : Option (Int × Int)) (e : Ending) (w' : World) : Prop :=
  Below w.heap.size w w' ∧
  match r with
  | some (a, c) => e = .returned (.tuple #[z, .int .i64 a, .int .i64 c])
  | none => ∃ v, e = .returned (.tuple #[v, .int .i64 0, .int .i64 0]) ∧ val v w'
/-- What is run: it hands back a value, or throws. -/
def RunQ (w : World) (val : Value → World → Prop) (r : Option (Int × Int)) (e : Ending) (w' : World) : Prop :=
  Below w.heap.size w w' ∧
  match r with
  | some (a, c) => e = thrown a c
  | none => ∃ v, e = .returned v ∧ val v w'
set_option maxRecDepth 100000 in
set_option maxHeartbeats 8000000 in
theorem attemptRd_any (F : FuncId) (c : Value) (w : World) (r : Option (Int × Int)) (val : Value → World → Prop) (hval : ∀ v A B, (∀ k, w.heap.size + 3 ≤ k → k < A.heap.size → B.heap[k]? = A.heap[k]?) → A.heap.size ≤ B.heap.size → val v A → val v B) (hform : ∀ v A, val v A → ∃ a0 a1 a2 b3 c3 d3 b4 c4 d4, v = .agg #[.int .i64 a0, .int .i64 a1, .string a2, .slice b3 c3 d3, .slice b4 c4 d4])
    (hent : ∀ w', (callFunc F #[c]).run Tryz.prog w' = .ok (.enter F #[c]) w')
    (hrun : ∀ w', Below w.heap.size w w' → w.heap.size + 3 ≤ w'.heap.size → Calls Tryz.prog F #[c] w' (RunQ w' val r)) :
    Calls Tryz.prog 62 #[.func (.func F) #[] #[c]] w (AtQ w (.agg #[.int .i64 0, .int .i64 0, .string ⟨#[]⟩, .slice none 0 0, .slice none 0 0]) val r) := by
  have hmf : ∀ (fn : Fn) (first cap : Array Value) (w : World), (Instr.makeFunc fn first cap).run Tryz.prog w = .ok (.func fn first cap) w := fun _ _ _ _ => rfl
  go_enter_defers Tryz.func62, Tryz.ntmps62
  have hR0 : Box (((w.alloc (.cells #[.int .i64 0, .int .i64 0, .string ⟨#[]⟩, .slice none 0 0, .slice none 0 0] 86)).alloc (.cells #[.int .i64 0] 3)).alloc (.cells #[.int .i64 0] 24)) w.heap.size #[.int .i64 0, .int .i64 0, .string ⟨#[]⟩, .slice none 0 0, .slice none 0 0] 86 := ((Box.at rfl).alloc _).alloc _
  have hP0 : Box (((w.alloc (.cells #[.int .i64 0, .int .i64 0, .string ⟨#[]⟩, .slice none 0 0, .slice none 0 0] 86)).alloc (.cells #[.int .i64 0] 3)).alloc (.cells #[.int .i64 0] 24)) (w.heap.size + 1) #[.int .i64 0] 3 := (Box.at (by simp)).alloc _
  have hQ0 : Box (((w.alloc (.cells #[.int .i64 0, .int .i64 0, .string ⟨#[]⟩, .slice none 0 0, .slice none 0 0] 86)).alloc (.cells #[.int .i64 0] 3)).alloc (.cells #[.int .i64 0] 24)) (w.heap.size + 2) #[.int .i64 0] 24 := Box.at (by simp)
  have hA := below_a3 (Nat.le_refl w.heap.size) (.cells #[.int .i64 0, .int .i64 0, .string ⟨#[]⟩, .slice none 0 0, .slice none 0 0] 86) (.cells #[.int .i64 0] 3) (.cells #[.int .i64 0] 24)
  have hsz : (((w.alloc (.cells #[.int .i64 0, .int .i64 0, .string ⟨#[]⟩, .slice none 0 0, .slice none 0 0] 86)).alloc (.cells #[.int .i64 0] 3)).alloc (.cells #[.int .i64 0] 24)).heap.size = w.heap.size + 3 := by simp
  have HR := Lib.hid (And.intro hR0 (And.intro hP0 (And.intro hQ0 (And.intro hA hsz))))
  have HRUN := Lib.hid hrun
  have HV := Lib.hid (And.intro hval hform)
  clear hR0 hP0 hQ0 hA hsz hrun hval hform
  go_wp2_with fail
  generalize ((w.alloc (.cells #[.int .i64 0, .int .i64 0, .string ⟨#[]⟩, .slice none 0 0, .slice none 0 0] 86)).alloc (.cells #[.int .i64 0] 3)).alloc (.cells #[.int .i64 0] 24) = W3 at *
  refine (HRUN.out W3 HR.out.2.2.2.1 (by have := HR.out.2.2.2.2; omega)).mono ?_
  rintro e w1 ⟨hB1, hQ⟩
  have hR1 := HR.out.1.keep hB1
  have hP1 := HR.out.2.1.keep hB1
  have hQ1 := HR.out.2.2.1.keep hB1
  have hBw := HR.out.2.2.2.1.trans (hB1.mono HR.out.2.2.2.1.size)
  have hs1 : w.heap.size + 3 ≤ w1.heap.size := by have h1 := HR.out.2.2.2.2; have h2 := hB1.size; omega
  have q0 := hR1.cell 0
  have q1 := hR1.cell 1
  have q2 := hR1.cell 2
  have q3 := hR1.cell 3
  have q4 := hR1.cell 4
  have p0 := hP1.cell 0
  have r0 := hQ1.cell 0
  have z0 := hR1.frozen 0
  have z1 := hR1.frozen 1
  have z2 := hR1.frozen 2
  have z3 := hR1.frozen 3
  have z4 := hR1.frozen 4
  have zp := hP1.frozen 0
  have zr := hQ1.frozen 0
  simp only [List.getElem?_toArray, List.getElem?_cons_succ, List.getElem?_cons_zero] at q0 q1 q2 q3 q4 p0 r0
  cases r with
  | some ac =>
    obtain ⟨a, cc⟩ := ac
    obtain rfl : e = thrown a cc := hQ
    refine leaves_cons (f := 109) (args := #[.pointer (some ⟨w.heap.size + 1, 0, none⟩), .pointer (some ⟨w.heap.size + 2, 0, none⟩)]) (by simp) (by simp [go_sem]) ?_
    refine (catchRd_panicking (w.heap.size + 1) (w.heap.size + 2) a cc [] w1 _ _ p0 zp r0 zr (by omega) (by omega) (by omega) (by omega)).mono ?_
    rintro e u' w'' ⟨rfl, rfl, rfl⟩
    have hbR : Box (toldW w1 (w.heap.size + 1) (w.heap.size + 2) a cc) w.heap.size _ _ := ((hR1.other (by omega) 0 (.int .i64 a)).other (by omega) 0 (.int .i64 cc)).alloc (.cells #[.int .i64 a, .int .i64 cc] 125)
    have hbP : Box (toldW w1 (w.heap.size + 1) (w.heap.size + 2) a cc) (w.heap.size + 1) #[.int .i64 a] _ := ((hP1.set 0 (.int .i64 a)).other (by omega) 0 (.int .i64 cc)).alloc (.cells #[.int .i64 a, .int .i64 cc] 125)
    have hbQ : Box (toldW w1 (w.heap.size + 1) (w.heap.size + 2) a cc) (w.heap.size + 2) #[.int .i64 cc] _ := ((hQ1.other (by omega) 0 (.int .i64 a)).set 0 (.int .i64 cc)).alloc (.cells #[.int .i64 a, .int .i64 cc] 125)
    have hbel : Below w.heap.size w (toldW w1 (w.heap.size + 1) (w.heap.size + 2) a cc) := by
      have h1 := (hBw.setCell (p := ⟨w.heap.size + 1, 0, none⟩) (by show w.heap.size ≤ w.heap.size + 1; omega) (.int .i64 a)).setCell (p := ⟨w.heap.size + 2, 0, none⟩) (by show w.heap.size ≤ w.heap.size + 2; omega) (.int .i64 cc)
      have h2 := h1.alloc h1.size (.cells #[.int .i64 a, .int .i64 cc] 125)
      exact ⟨h2.os, h2.tape, h2.output, h2.size, h2.block⟩
    generalize toldW w1 (w.heap.size + 1) (w.heap.size + 2) a cc = FW at *
    have y0 := hbR.cell 0
    have y1 := hbR.cell 1
    have y2 := hbR.cell 2
    have y3 := hbR.cell 3
    have y4 := hbR.cell 4
    have y5 := hbP.cell 0
    have y6 := hbQ.cell 0
    simp only [List.getElem?_toArray, List.getElem?_cons_succ, List.getElem?_cons_zero] at y0 y1 y2 y3 y4 y5 y6
    refine ⟨.tuple #[.agg #[.int .i64 0, .int .i64 0, .string ⟨#[]⟩, .slice none 0 0, .slice none 0 0], .int .i64 a, .int .i64 cc], ?_, hbel, rfl⟩
    simp [results, Tryz.results62, go_sem, y0, y1, y2, y3, y4, y5, y6]
  | none =>
    obtain ⟨v, rfl, hv⟩ : ∃ v, e = .returned v ∧ val v w1 := hQ
    obtain ⟨a0, a1, a2, b3, c3, d3, b4, c4, d4, rfl⟩ := HV.out.2 _ _ hv
    have r1 : w1.cell? ⟨w.heap.size + 1 + 1, 0, none⟩ = some (.int .i64 0) := r0
    have zr1 : w1.frozen? ⟨w.heap.size + 1 + 1, 0, none⟩ = false := zr
    have HW := Lib.hid (And.intro hv (And.intro hBw (And.intro hR1 (And.intro hP1 hQ1))))
    clear hv hBw hR1 hP1 hQ1
    go_wp2_with fail
    refine leaves_cons (f := 109) (args := #[.pointer (some ⟨w.heap.size + 1, 0, none⟩), .pointer (some ⟨w.heap.size + 2, 0, none⟩)]) (by simp) (by simp [go_sem]) ?_
    refine (catchRd_idle (w.heap.size + 1) (w.heap.size + 2) _).mono ?_
    rintro e u' w'' ⟨rfl, rfl, rfl⟩
    obtain ⟨hv, hBw, hR1, hP1, hQ1⟩ := HW.out
    have hbR := (((((((hR1.set 0 (.int .i64 a0)).set 1 (.int .i64 a1)).set 2 (.string a2)).set 3 (.slice b3 c3 d3)).set 4 (.slice b4 c4 d4)).other (show w.heap.size ≠ w.heap.size + 1 by omega) 0 (.int .i64 0)).other (show w.heap.size ≠ w.heap.size + 1 + 1 by omega) 0 (.int .i64 0))
    have hbP := (((((((hP1.other (show w.heap.size + 1 ≠ w.heap.size by omega) 0 (.int .i64 a0)).other (show w.heap.size + 1 ≠ w.heap.size by omega) 1 (.int .i64 a1)).other (show w.heap.size + 1 ≠ w.heap.size by omega) 2 (.string a2)).other (show w.heap.size + 1 ≠ w.heap.size by omega) 3 (.slice b3 c3 d3)).other (show w.heap.size + 1 ≠ w.heap.size by omega) 4 (.slice b4 c4 d4)).set 0 (.int .i64 0)).other (show w.heap.size + 1 ≠ w.heap.size + 1 + 1 by omega) 0 (.int .i64 0))
    have hQ2 : Box w1 (w.heap.size + 1 + 1) #[.int .i64 0] 24 := hQ1
    have hbQ := (((((((hQ2.other (show w.heap.size + 1 + 1 ≠ w.heap.size by omega) 0 (.int .i64 a0)).other (show w.heap.size + 1 + 1 ≠ w.heap.size by omega) 1 (.int .i64 a1)).other (show w.heap.size + 1 + 1 ≠ w.heap.size by omega) 2 (.string a2)).other (show w.heap.size + 1 + 1 ≠ w.heap.size by omega) 3 (.slice b3 c3 d3)).other (show w.heap.size + 1 + 1 ≠ w.heap.size by omega) 4 (.slice b4 c4 d4)).other (show w.heap.size + 1 + 1 ≠ w.heap.size + 1 by omega) 0 (.int .i64 0)).set 0 (.int .i64 0))
    have hk : ∀ k, k ≠ w.heap.size → k ≠ w.heap.size + 1 → k ≠ w.heap.size + 1 + 1 → ((((((((w1.setCell ⟨w.heap.size, 0, none⟩ (.int .i64 a0)).setCell ⟨w.heap.size, 1, none⟩ (.int .i64 a1)).setCell ⟨w.heap.size, 2, none⟩ (.string a2)).setCell ⟨w.heap.size, 3, none⟩ (.slice b3 c3 d3)).setCell ⟨w.heap.size, 4, none⟩ (.slice b4 c4 d4)).setCell ⟨w.heap.size + 1, 0, none⟩ (.int .i64 0)).setCell ⟨w.heap.size + 1 + 1, 0, none⟩ (.int .i64 0))).heap[k]? = w1.heap[k]? := fun k h1 h2 h3 => by
      rw [Below.heap_setCell _ _ _ _ h3, Below.heap_setCell _ _ _ _ h2, Below.heap_setCell _ _ _ _ h1, Below.heap_setCell _ _ _ _ h1, Below.heap_setCell _ _ _ _ h1, Below.heap_setCell _ _ _ _ h1, Below.heap_setCell _ _ _ _ h1]
    have hszF : ((((((((w1.setCell ⟨w.heap.size, 0, none⟩ (.int .i64 a0)).setCell ⟨w.heap.size, 1, none⟩ (.int .i64 a1)).setCell ⟨w.heap.size, 2, none⟩ (.string a2)).setCell ⟨w.heap.size, 3, none⟩ (.slice b3 c3 d3)).setCell ⟨w.heap.size, 4, none⟩ (.slice b4 c4 d4)).setCell ⟨w.heap.size + 1, 0, none⟩ (.int .i64 0)).setCell ⟨w.heap.size + 1 + 1, 0, none⟩ (.int .i64 0))).heap.size = w1.heap.size := by simp
    have hbel := (((((((hBw.setCell (p := ⟨w.heap.size, 0, none⟩) (by show w.heap.size ≤ w.heap.size; omega) (.int .i64 a0)).setCell (p := ⟨w.heap.size, 1, none⟩) (by show w.heap.size ≤ w.heap.size; omega) (.int .i64 a1)).setCell (p := ⟨w.heap.size, 2, none⟩) (by show w.heap.size ≤ w.heap.size; omega) (.string a2)).setCell (p := ⟨w.heap.size, 3, none⟩) (by show w.heap.size ≤ w.heap.size; omega) (.slice b3 c3 d3)).setCell (p := ⟨w.heap.size, 4, none⟩) (by show w.heap.size ≤ w.heap.size; omega) (.slice b4 c4 d4)).setCell (p := ⟨w.heap.size + 1, 0, none⟩) (by show w.heap.size ≤ w.heap.size + 1; omega) (.int .i64 0)).setCell (p := ⟨w.heap.size + 1 + 1, 0, none⟩) (by show w.heap.size ≤ w.heap.size + 1 + 1; omega) (.int .i64 0))
    generalize (((((((w1.setCell ⟨w.heap.size, 0, none⟩ (.int .i64 a0)).setCell ⟨w.heap.size, 1, none⟩ (.int .i64 a1)).setCell ⟨w.heap.size, 2, none⟩ (.string a2)).setCell ⟨w.heap.size, 3, none⟩ (.slice b3 c3 d3)).setCell ⟨w.heap.size, 4, none⟩ (.slice b4 c4 d4)).setCell ⟨w.heap.size + 1, 0, none⟩ (.int .i64 0)).setCell ⟨w.heap.size + 1 + 1, 0, none⟩ (.int .i64 0)) = FW at *
    have y0 := hbR.cell 0
    have y1 := hbR.cell 1
    have y2 := hbR.cell 2
    have y3 := hbR.cell 3
    have y4 := hbR.cell 4
    have y5 := hbP.cell 0
    have y6 := hbQ.cell 0
    simp only [List.setIfInBounds_toArray, List.set_cons_zero, List.set_cons_succ, List.getElem?_toArray, List.getElem?_cons_succ, List.getElem?_cons_zero] at y0 y1 y2 y3 y4 y5 y6
    refine ⟨.tuple #[.agg #[.int .i64 a0, .int .i64 a1, .string a2, .slice b3 c3 d3, .slice b4 c4 d4], .int .i64 0, .int .i64 0], ?_, hbel, _, rfl, HV.out.1 _ _ _ (fun k h1 _ => hk k (by omega) (by omega) (by omega)) (by omega) hv⟩
    simp [results, Tryz.results62, go_sem, y0, y1, y2, y3, y4, y5, y6]
end Go.Proofs.YthfciekhmbfmfaaGreatDoor
