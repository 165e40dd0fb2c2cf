/- Infix and Prefix, both readings. -/
import Derived.Test.YthfciekhmbfmfaaGreatDoorOpsN
import Derived.Test.YthfciekhmbfmfaaGreatDoorLexF
import Derived.Test.YthfciekhmbfmfaaGreatDoorNamed
namespace Go.Proofs.YthfciekhmbfmfaaGreatDoor
open Go.RowKit Go Go.Maps

def infV (s : ByteArray) : Op3 := (tabF opsI s.data.toList).getD (0, 0, 0)
def infB (s : ByteArray) : Bool := (tabF opsI s.data.toList).isSome
def preV (s : ByteArray) : Op3 := (tabF opsP s.data.toList).getD (0, 0, 0)
def preB (s : ByteArray) : Bool := (tabF opsP s.data.toList).isSome
theorem field_ops (b1 b2 : Nat) (w : World) : (Instr.field 113 (.agg #[.map (some b1), .map (some b2)]) 0).run Tryz.prog w = .ok (.map (some b1)) w := by kernel_rfl
theorem field_ops1 (b1 b2 : Nat) (w : World) : (Instr.field 113 (.agg #[.map (some b1), .map (some b2)]) 1).run Tryz.prog w = .ok (.map (some b2)) w := by kernel_rfl
/-- An operator, and whether there is one. -/
def OpQ (o : Op3) (b : Bool) (w : World) (e : Ending) (w' : World) : Prop := e = .returned (.tuple #[opV o, .bool b]) ∧ Below w.heap.size w w'
set_option maxRecDepth 100000 in
set_option maxHeartbeats 2000000 in
theorem readInfix_any (s : ByteArray) (hs : s.size ≤ maxLen) (w : World) : Calls Tryz.prog 40 #[.string s] w (OpQ (infV s) (infB s) w) := by
  have b0 : Box (w.alloc (.cells #[.int .i64 0, .int .i64 0, .int .i64 0] 48)) w.heap.size #[.int .i64 0, .int .i64 0, .int .i64 0] 48 := World.alloc_heap_new _ _
  have hB0 := below_a1 (Nat.le_refl w.heap.size) (.cells #[.int .i64 0, .int .i64 0, .int .i64 0] 48)
  go_enter Tryz.func40, Tryz.ntmps40
  go_wp2_with fail
  refine (newOperators_any _).mono ?_
  rintro e w1 ⟨b1, b2, rfl, ⟨h1, h2, h3, ⟨n1, h4⟩, -⟩, hB⟩
  have b0' := b0.keep hB
  have hr := h4.look_ok s hs
  rw [show (tabF opsI s.data.toList).getD (0, 0, 0) = infV s from rfl, show (tabF opsI s.data.toList).isSome = infB s from rfl] at hr
  have hB1 := hB0.trans (hB.mono hB0.size)
  obtain ⟨⟨x, y, z⟩, ho⟩ : ∃ o, infV s = o := ⟨_, rfl⟩
  obtain ⟨b, hb⟩ : ∃ b, infB s = b := ⟨_, rfl⟩
  rw [ho, hb] at hr
  simp only [opV] at hr
  have g0 := b0'.cell 0
  have g1 := b0'.cell 1
  have g2 := b0'.cell 2
  have f0 := b0'.frozen 0
  have f1 := b0'.frozen 1
  have f2 := b0'.frozen 2
  have l0 := b0'.lt
  have HH := Lib.hid (And.intro b0' hB1)
  have HO := Lib.hid (And.intro ho hb)
  clear b0 hB0 hB h1 h2 h3 h4 b0' hB1 ho hb
  simp only [List.getElem?_toArray, List.getElem?_cons_succ, List.getElem?_cons_zero] at g0 g1 g2
  have hfd := field_ops b1 b2
  go_wp2_with fail
  have bx := (((HH.out.1.set 0 (.int .i64 x)).set 1 (.int .i64 y)).set 2 (.int .i64 z)).alloc (.cells #[.int .i64 x, .int .i64 y, .int .i64 z] 48)
  have hF : Below w.heap.size w ((((w1.setCell ⟨w.heap.size, 0, none⟩ (.int .i64 x)).setCell ⟨w.heap.size, 1, none⟩ (.int .i64 y)).setCell ⟨w.heap.size, 2, none⟩ (.int .i64 z)).alloc (.cells #[.int .i64 x, .int .i64 y, .int .i64 z] 48)) :=
    (((HH.out.2.setCell (p := ⟨w.heap.size, 0, none⟩) (Nat.le_refl _) _).setCell (p := ⟨w.heap.size, 1, none⟩) (Nat.le_refl _) _).setCell (p := ⟨w.heap.size, 2, none⟩) (Nat.le_refl _) _).alloc (by simpa using HH.out.2.size) _
  have y0 := bx.cell 0
  have y1 := bx.cell 1
  have y2 := bx.cell 2
  have HF := Lib.hid hF
  clear bx hF g0 g1 g2 f0 f1 f2 hr HH
  generalize (((w1.setCell ⟨w.heap.size, 0, none⟩ (.int .i64 x)).setCell ⟨w.heap.size, 1, none⟩ (.int .i64 y)).setCell ⟨w.heap.size, 2, none⟩ (.int .i64 z)).alloc (.cells #[.int .i64 x, .int .i64 y, .int .i64 z] 48) = FW at *
  simp at y0 y1 y2
  exact bodyPost_ret (v := .tuple #[.agg #[.int .i64 x, .int .i64 y, .int .i64 z], .bool b]) (by simp [results, Tryz.results40, go_sem, y0, y1, y2]) rfl ⟨by rw [HO.out.1, HO.out.2]; rfl, HF.out⟩
set_option maxRecDepth 100000 in
set_option maxHeartbeats 2000000 in
theorem readPrefix_any (s : ByteArray) (hs : s.size ≤ maxLen) (w : World) : Calls Tryz.prog 42 #[.string s] w (OpQ (preV s) (preB s) w) := by
  have b0 : Box (w.alloc (.cells #[.int .i64 0, .int .i64 0, .int .i64 0] 48)) w.heap.size #[.int .i64 0, .int .i64 0, .int .i64 0] 48 := World.alloc_heap_new _ _
  have hB0 := below_a1 (Nat.le_refl w.heap.size) (.cells #[.int .i64 0, .int .i64 0, .int .i64 0] 48)
  go_enter Tryz.func42, Tryz.ntmps42
  go_wp2_with fail
  refine (newOperators_any _).mono ?_
  rintro e w1 ⟨b1, b2, rfl, ⟨h1, h2, h3, -, ⟨n1, h4⟩⟩, hB⟩
  have b0' := b0.keep hB
  have hr := h4.look_ok s hs
  rw [show (tabF opsP s.data.toList).getD (0, 0, 0) = preV s from rfl, show (tabF opsP s.data.toList).isSome = preB s from rfl] at hr
  have hB1 := hB0.trans (hB.mono hB0.size)
  obtain ⟨⟨x, y, z⟩, ho⟩ : ∃ o, preV s = o := ⟨_, rfl⟩
  obtain ⟨b, hb⟩ : ∃ b, preB s = b := ⟨_, rfl⟩
  rw [ho, hb] at hr
  simp only [opV] at hr
  have g0 := b0'.cell 0
  have g1 := b0'.cell 1
  have g2 := b0'.cell 2
  have f0 := b0'.frozen 0
  have f1 := b0'.frozen 1
  have f2 := b0'.frozen 2
  have l0 := b0'.lt
  have HH := Lib.hid (And.intro b0' hB1)
  have HO := Lib.hid (And.intro ho hb)
  clear b0 hB0 hB h1 h2 h3 h4 b0' hB1 ho hb
  simp only [List.getElem?_toArray, List.getElem?_cons_succ, List.getElem?_cons_zero] at g0 g1 g2
  have hfd := field_ops1 b1 b2
  go_wp2_with fail
  have bx := (((HH.out.1.set 0 (.int .i64 x)).set 1 (.int .i64 y)).set 2 (.int .i64 z)).alloc (.cells #[.int .i64 x, .int .i64 y, .int .i64 z] 48)
  have hF : Below w.heap.size w ((((w1.setCell ⟨w.heap.size, 0, none⟩ (.int .i64 x)).setCell ⟨w.heap.size, 1, none⟩ (.int .i64 y)).setCell ⟨w.heap.size, 2, none⟩ (.int .i64 z)).alloc (.cells #[.int .i64 x, .int .i64 y, .int .i64 z] 48)) :=
    (((HH.out.2.setCell (p := ⟨w.heap.size, 0, none⟩) (Nat.le_refl _) _).setCell (p := ⟨w.heap.size, 1, none⟩) (Nat.le_refl _) _).setCell (p := ⟨w.heap.size, 2, none⟩) (Nat.le_refl _) _).alloc (by simpa using HH.out.2.size) _
  have y0 := bx.cell 0
  have y1 := bx.cell 1
  have y2 := bx.cell 2
  have HF := Lib.hid hF
  clear bx hF g0 g1 g2 f0 f1 f2 hr HH
  generalize (((w1.setCell ⟨w.heap.size, 0, none⟩ (.int .i64 x)).setCell ⟨w.heap.size, 1, none⟩ (.int .i64 y)).setCell ⟨w.heap.size, 2, none⟩ (.int .i64 z)).alloc (.cells #[.int .i64 x, .int .i64 y, .int .i64 z] 48) = FW at *
  simp at y0 y1 y2
  exact bodyPost_ret (v := .tuple #[.agg #[.int .i64 x, .int .i64 y, .int .i64 z], .bool b]) (by simp [results, Tryz.results42, go_sem, y0, y1, y2]) rfl ⟨by rw [HO.out.1, HO.out.2]; rfl, HF.out⟩
end Go.Proofs.YthfciekhmbfmfaaGreatDoor

/- What a text is read as: the term of its lexemes, or the byte at which it goes wrong. -/
namespace Go.Proofs.YthfciekhmbfmfaaGreatDoor
open Go.RowKit Go

/-- The number of the variable that bears a name: that of its last occurrence among the names. -/
def vixN (n : Nat) : List (List UInt8) → List UInt8 → Option Nat
  | [], _ => none
  | x :: r, k => match vixN (n + 1) r k with | some v => some v | none => if k = x then some n else none
def vix (l : List (List UInt8)) (k : List UInt8) : Option Nat := vixN 0 l k
theorem vixN_snoc (x k : List UInt8) : ∀ (l : List (List UInt8)) (n : Nat), vixN n (l ++ [x]) k = if k = x then some (n + l.length) else vixN n l k
  | [], n => by simp only [List.nil_append, vixN, List.length_nil, Nat.add_zero]
  | y :: l, n => by
    rw [List.cons_append, vixN, vixN_snoc x k l (n + 1), vixN]
    by_cases h : k = x
    · simp only [if_pos h, List.length_cons]; congr 1; omega
    · simp only [if_neg h]
theorem vix_snoc (l : List (List UInt8)) (x k : List UInt8) : vix (l ++ [x]) k = if k = x then some l.length else vix l k := by
  rw [vix, vixN_snoc, Nat.zero_add]; rfl
theorem vixN_lt (k : List UInt8) : ∀ (l : List (List UInt8)) (n v : Nat), vixN n l k = some v → v < n + l.length
  | [], n, v, h => by cases h
  | y :: l, n, v, h => by
    rw [vixN] at h
    cases hr : vixN (n + 1) l k with
    | some u =>
      rw [hr] at h; cases h
      have := vixN_lt k l (n + 1) _ hr
      simp only [List.length_cons]; omega
    | none =>
      rw [hr] at h
      simp only at h
      split at h
      · cases h; simp only [List.length_cons]; omega
      · cases h
theorem vix_lt {l : List (List UInt8)} {k : List UInt8} {v : Nat} (h : vix l k = some v) : v < l.length := by have := vixN_lt k l 0 v h; omega

/-- Where a reader stands, and the names of the variables so far. -/
structure PS where
  i : Nat
  ns : List (List UInt8)
/-- The byte of the i-th lexeme, or the end of the text. -/
def plc (tot : Nat) (xs : List Lx) (i : Nat) : Nat := match xs[i]? with | some x => x.a | none => tot
def tokAt (xs : List Lx) (i : Nat) : Option Tok := (xs[i]?).map (·.t)
/-- The lexeme that stands directly behind the i-th one. -/
def glue (xs : List Lx) (i : Nat) : Option Tok := match xs[i]?, xs[i + 1]? with | some a, some b => if a.e = b.a then some b.t else none | _, _ => none
def isSg (t : Option Tok) (s : List UInt8) : Bool := match t with | some t => decide (t.k = .sign) && decide (t.s = s) | none => false
abbrev PR (α : Type) := Except Nat (α × PS)
def fn (name : List UInt8) (l : List Tr) : Tr := .node 5 0 (nm name) l
def atm (name : List UInt8) : Tr := .node 3 0 (nm name) []

section
variable (tot : Nat) (xs : List Lx) (rec : Int → PS → PR Tr)
/-- Further arguments. -/
def partsN : Nat → List Tr → PS → PR (List Tr)
  | 0, acc, st => .ok (acc, st)
  | n + 1, acc, st =>
    if isSg (tokAt xs st.i) [44] then
      match rec 999 ⟨st.i + 1, st.ns⟩ with
      | .error e => .error e
      | .ok (t, st') => partsN n (acc ++ [t]) st'
    else .ok (acc, st)
def partsF (st : PS) : PR (List Tr) :=
  match rec 999 st with
  | .error e => .error e
  | .ok (t, st') => partsN xs rec (xs.length + 1 - st'.i) [t] st'
def signF (s : List UInt8) (st : PS) : Except Nat PS := if isSg (tokAt xs st.i) s then .ok ⟨st.i + 1, st.ns⟩ else .error (plc tot xs st.i)
def plainF (name : List UInt8) (st : PS) : PR Tr :=
  if isSg (glue xs st.i) [40] then
    match partsF xs rec ⟨st.i + 2, st.ns⟩ with
    | .error e => .error e
    | .ok (l, st') => match signF tot xs [41] st' with | .error e => .error e | .ok st2 => .ok (fn name l, st2)
  else .ok (atm name, ⟨st.i + 1, st.ns⟩)
def listF (st : PS) : PR Tr :=
  if isSg (tokAt xs st.i) [93] then .ok (atm [91, 93], ⟨st.i + 1, st.ns⟩)
  else match partsF xs rec st with
    | .error e => .error e
    | .ok (l, st1) =>
      if isSg (tokAt xs st1.i) [124] then
        match rec 999 ⟨st1.i + 1, st1.ns⟩ with
        | .error e => .error e
        | .ok (t, st2) => match signF tot xs [93] st2 with | .error e => .error e | .ok st3 => .ok (l.foldr (fun x y => fn [46] [x, y]) t, st3)
      else match signF tot xs [93] st1 with | .error e => .error e | .ok st3 => .ok (l.foldr (fun x y => fn [46] [x, y]) (atm [91, 93]), st3)
def vecF (st : PS) : PR Tr :=
  if isSg (tokAt xs st.i) [125] then .ok (.node 6 0 (nm []) [], ⟨st.i + 1, st.ns⟩)
  else match partsF xs rec st with
    | .error e => .error e
    | .ok (l, st1) => match signF tot xs [125] st1 with | .error e => .error e | .ok st2 => .ok (.node 6 0 (nm []) l, st2)
def brackF (s : List UInt8) (st : PS) : PR Tr :=
  if s = [40] then
    match rec 1200 ⟨st.i + 1, st.ns⟩ with
    | .error e => .error e
    | .ok (t, st1) => match signF tot xs [41] st1 with | .error e => .error e | .ok st2 => .ok (t, st2)
  else if s = [91] then listF tot xs rec ⟨st.i + 1, st.ns⟩
  else if s = [123] then vecF tot xs rec ⟨st.i + 1, st.ns⟩
  else .error (plc tot xs st.i)
/-- The variable with a name. -/
def varF (name : List UInt8) (ns : List (List UInt8)) : Nat × List (List UInt8) :=
  match vix ns name with
  | some v => if name = [95] then (ns.length, ns ++ [name]) else (v, ns)
  | none => (ns.length, ns ++ [name])
def namedF (name : List UInt8) (most : Int) (st : PS) : PR (Tr × Int) :=
  if isSg (glue xs st.i) [40] then
    match plainF tot xs rec name st with | .error e => .error e | .ok (t, st') => .ok ((t, 0), st')
  else match (if name = [45] then glue xs st.i else none) with
    | some ⟨.int, _, n⟩ => .ok ((.node 2 (-(n : Int)) (nm []) [], 0), ⟨st.i + 2, st.ns⟩)
    | _ =>
      if (preV (nm name)).1 > 0 ∧ (preV (nm name)).1 ≤ most then
        match rec (preV (nm name)).2.2 ⟨st.i + 1, st.ns⟩ with
        | .error e => .error e
        | .ok (t, st') => .ok ((fn name [t], (preV (nm name)).1), st')
      else if (infV (nm name)).1 > 0 ∨ (preV (nm name)).1 > 0 then .error (plc tot xs st.i)
      else match plainF tot xs rec name st with | .error e => .error e | .ok (t, st') => .ok ((t, 0), st')
def firstF (most : Int) (st : PS) : PR (Tr × Int) :=
  match tokAt xs st.i with
  | none => .error (plc tot xs st.i)
  | some t =>
    match t.k with
    | .name => namedF tot xs rec t.s most st
    | .quoted => match plainF tot xs rec t.s st with | .error e => .error e | .ok (t, st') => .ok ((t, 0), st')
    | .sign => match brackF tot xs rec t.s st with | .error e => .error e | .ok (t, st') => .ok ((t, 0), st')
    | .var => .ok ((.node 1 ((varF t.s st.ns).1 : Int) (nm []) [], 0), ⟨st.i + 1, (varF t.s st.ns).2⟩)
    | .int => .ok ((.node 2 (t.n : Int) (nm []) [], 0), ⟨st.i + 1, st.ns⟩)
    | .str => .ok ((.node 4 0 (nm t.s) [], 0), ⟨st.i + 1, st.ns⟩)
    | .fin => .error (plc tot xs st.i)
/-- The name and the operator that come next. -/
def infF (i : Nat) : List UInt8 × Op3 :=
  match tokAt xs i with
  | some t => match t.k with | .name => (t.s, infV (nm t.s)) | .sign => (t.s, infV (nm t.s)) | _ => ([], (0, 0, 0))
  | none => ([], (0, 0, 0))
def loopF (most : Int) : Nat → Tr → Int → PS → PR Tr
  | 0, t, _, st => .ok (t, st)
  | n + 1, t, prio, st =>
    if (infF xs st.i).2.1 = 0 ∨ (infF xs st.i).2.1 > most ∨ prio > (infF xs st.i).2.2.1 then .ok (t, st)
    else match rec (infF xs st.i).2.2.2 ⟨st.i + 1, st.ns⟩ with
      | .error e => .error e
      | .ok (u, st') => loopF most n (fn (infF xs st.i).1 [t, u]) (infF xs st.i).2.1 st'
end
/-- A term up to a priority, from a lexeme on. -/
def termN (tot : Nat) (xs : List Lx) : Nat → Int → PS → PR Tr
  | 0, _, _ => .error 0
  | n + 1, most, st =>
    match firstF tot xs (termN tot xs n) most st with
    | .error e => .error e
    | .ok ((t, prio), st') => loopF xs (termN tot xs n) most (xs.length + 1 - st'.i) t prio st'
def termL (tot : Nat) (xs : List Lx) (most : Int) (st : PS) : PR Tr := termN tot xs (xs.length + 1 - st.i) most st
end Go.Proofs.YthfciekhmbfmfaaGreatDoor

/- Maps from names to numbers: the variables of a term that is read. -/
namespace Go.Proofs.YthfciekhmbfmfaaGreatDoor
open Go.RowKit Go Go.Maps

def intElem (v : Value) : Option (DataW Unit × List MemPlace) :=
  match v with
  | .int .i64 n => some (.lit (.int .i64 n), [])
  | _ => none
theorem intElem_mk (n : Int) : intElem (.int .i64 n) = some (.lit (.int .i64 n), []) := rfl
theorem intElem_inv {v : Value} {z : DataW Unit × List MemPlace} (h : intElem v = some z) : ∃ n, v = .int .i64 n ∧ z = (.lit (.int .i64 n), []) := by
  unfold intElem at h
  split at h
  · cases h
    exact ⟨_, rfl, rfl⟩
  · cases h
/-- Block b is a map that says of each name what f says. -/
def VarsAt (W : World) (b n : Nat) (f : List UInt8 → Option Nat) : Prop := ∃ D : DataW Unit, W.ownsMap Tryz.prog 9 intElem b n D ∧ Tidy D ∧
  ∀ key : List UInt8, Maps.has D (.string key) = (f key).isSome ∧ D.atKey (.string key) (.lit (.int .i64 0)) = .lit (.int .i64 (((f key).getD 0 : Nat) : Int))
theorem VarsAt.made (w : World) : VarsAt (w.alloc (.map #[] 0)) w.heap.size 0 (vix []) := ⟨_, World.ownsMap_made w _ _ _, tidy_empty, fun key => ⟨by simp [Maps.has_eq, vix, vixN], by simp [DataW.atKey, vix, vixN]⟩⟩
theorem VarsAt.lt {W : World} {b n : Nat} {f : List UInt8 → Option Nat} (h : VarsAt W b n f) : b < W.heap.size := by obtain ⟨D, h, _⟩ := h; exact h.lt
theorem VarsAt.kept {W W' : World} {b n : Nat} {f : List UInt8 → Option Nat} {row : Option Nat} (h : VarsAt W b n f) (hg : W.grownBy W' row) (hne : some b ≠ row) : VarsAt W' b n f := by
  obtain ⟨D, h, hr⟩ := h; exact ⟨D, h.kept hg hne, hr⟩
theorem VarsAt.map {W : World} {b n : Nat} {f : List UInt8 → Option Nat} (h : VarsAt W b n f) : ∃ es clock, W.heap[b]? = some (Obj.map es clock) := by
  obtain ⟨D, ⟨es, clock, hm, _⟩, _⟩ := h
  exact ⟨es, clock, hm⟩
theorem OpsAt.map {W : World} {b n : Nat} {f : List UInt8 → Option Op3} (h : OpsAt W b n f) : ∃ es clock, W.heap[b]? = some (Obj.map es clock) := by
  obtain ⟨D, ⟨es, clock, hm, _⟩, _⟩ := h
  exact ⟨es, clock, hm⟩
theorem zeroInt (w : World) : (zeroValue 3).run Tryz.prog w = .ok (.int .i64 0) w := Tryz.zeroValue3 w
theorem VarsAt.look_ok {W : World} {b n : Nat} {f : List UInt8 → Option Nat} (h : VarsAt W b n f) (key : ByteArray) (hk : key.size ≤ maxLen) :
    (Instr.lookup 147 (.map (some b)) (.string key) true).run Tryz.prog W = .ok (.tuple #[.int .i64 (((f key.data.toList).getD 0 : Nat) : Int), .bool (f key.data.toList).isSome]) W := by
  obtain ⟨D, h, _, hf⟩ := h
  obtain ⟨v, ps, hr, hv⟩ := h.look_ok keyStr Tryz.underlying147 (zeroInt W) (intElem_mk _) (WideMaps.keyOf_string_mk Tryz.underlying9 hk)
  obtain ⟨o, rfl, hc⟩ := intElem_inv hv
  rw [(hf _).2] at hc
  rw [(hf _).1] at hr
  simp only [Prod.mk.injEq, DataW.lit.injEq, Lit.int.injEq, true_and] at hc
  rw [← hc.1] at hr
  exact hr
theorem VarsAt.put {W : World} {b n : Nat} {l : List (List UInt8)} (h : VarsAt W b n (vix l)) (hn : n < maxLen) (key : ByteArray) (hk : key.size ≤ maxLen) :
    ∃ w', (Instr.mapUpdate 147 (.map (some b)) (.string key) (.int .i64 (l.length : Int))).run Tryz.prog W = .ok () w' ∧ VarsAt w' b (n + 1) (vix (l ++ [key.data.toList])) ∧ W.grownBy w' (some b) := by
  obtain ⟨D, h, ht, hf⟩ := h
  obtain ⟨w', hr, h2, hg⟩ := h.update keyStr Tryz.underlying147 hn (WideMaps.keyOf_string_mk Tryz.underlying9 hk) (intElem_mk (l.length : Int))
  have hkl : WideAt.IsKeyLit (.string key.data.toList) := by simp [WideAt.IsKeyLit]
  refine ⟨w', hr, ⟨_, h2, ht.put hkl _, fun k2 => ?_⟩, hg⟩
  by_cases e : k2 = key.data.toList
  · subst e
    rw [has_put_same ht.isMap hkl, atKey_put_same ht.isMap hkl]
    simp [vix_snoc]
  · have hne : (Lit.string k2) ≠ .string key.data.toList := fun h => by cases h; exact e rfl
    rw [has_put_other hne, atKey_put_other hne, (hf k2).1, (hf k2).2]
    simp [vix_snoc, e]
end Go.Proofs.YthfciekhmbfmfaaGreatDoor
