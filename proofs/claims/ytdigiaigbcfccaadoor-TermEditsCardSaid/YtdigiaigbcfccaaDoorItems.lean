/- Lists in terms: whether a term is a list cell; what lies within the limits; the items of a list, and its tail. -/
import Derived.Test.YtdigiaigbcfccaaDoorInst
import Derived.Test.YtdigiaigbcfccaaDoorSaneM
namespace Go.Proofs.YtdigiaigbcfccaaDoor
open Go.RowKit Go

def dot : ByteArray := ⟨#[46]⟩
/-- A node is a list cell. -/
def cellB (k : Int) (s : ByteArray) (len : Nat) : Bool := decide (k = 5) && decide (s.toList = [46]) && decide (len = 2)
def Tr.cell : Tr → Bool
  | .node k _ s l => cellB k s l.length
def cellT (a b : Tr) : Tr := .node 5 0 dot [a, b]
/-- The list of items with a tail. -/
def listT (l : List Tr) (r : Tr) : Tr := l.foldr cellT r
theorem dot_list : dot.toList = [46] := by rw [bytes_toList]; rfl
theorem dot_of {s : ByteArray} (h : s.toList = [46]) : s = dot := by
  rw [bytes_toList] at h
  cases s with
  | mk d => exact congrArg ByteArray.mk (Array.ext' h)
theorem cellT_cell (a b : Tr) : (cellT a b).cell = true := by simp [cellT, Tr.cell, cellB, dot_list]
theorem listT_cons (a : Tr) (l : List Tr) (r : Tr) : listT (a :: l) r = cellT a (listT l r) := rfl
theorem listT_snoc (l : List Tr) (a r : Tr) : listT (l ++ [a]) r = listT l (cellT a r) := by simp [listT]
/-- A tree is a list in one way alone. -/
theorem listT_inj : ∀ (l l' : List Tr) {r r' : Tr}, r.cell = false → r'.cell = false → listT l r = listT l' r' → l = l' ∧ r = r'
  | [], [], _, _, _, _, h => ⟨rfl, h⟩
  | [], a :: l', r, r', h1, _, h => by
    rw [listT_cons] at h
    rw [show listT [] r = r from rfl] at h
    rw [h, cellT_cell] at h1
    cases h1
  | a :: l, [], r, r', _, h2, h => by
    rw [listT_cons] at h
    rw [show listT [] r' = r' from rfl] at h
    rw [← h, cellT_cell] at h2
    cases h2
  | a :: l, a' :: l', r, r', h1, h2, h => by
    rw [listT_cons, listT_cons] at h
    simp only [cellT, Tr.node.injEq, List.cons.injEq, and_true, true_and] at h
    obtain ⟨rfl, h⟩ := h
    obtain ⟨rfl, rfl⟩ := listT_inj l l' h1 h2 h
    exact ⟨rfl, rfl⟩
/-- A good list cell is a cell's tree. -/
theorem good_cell {k n : Int} {s : ByteArray} {l : List Tr} (h : (Tr.node k n s l).good = true) (hc : cellB k s l.length = true) : ∃ a b, l = [a, b] ∧ Tr.node k n s l = cellT a b ∧ a.good = true ∧ b.good = true := by
  simp only [cellB, Bool.and_eq_true, decide_eq_true_eq] at hc
  obtain ⟨⟨rfl, hs⟩, h2⟩ := hc
  obtain rfl := dot_of hs
  obtain ⟨a, b, rfl⟩ : ∃ a b, l = [a, b] := by
    rcases l with _ | ⟨a, _ | ⟨b, _ | ⟨c, l⟩⟩⟩ <;> simp at h2
    exact ⟨a, b, rfl⟩
  simp only [Tr.good, nodeB, goodL, Bool.and_eq_true, List.length_cons, List.length_nil] at h
  have hn : n = 0 := by
    have := h.1
    simp at this
    omega
  subst hn
  exact ⟨a, b, rfl, rfl, by simpa using h.2.1, by simpa using h.2.2⟩

set_option maxHeartbeats 1000000 in
theorem isCell_any (k n : Int) (s : ByteArray) (len : Nat) (a : Option Addr) (c : Nat) (w : World) (hm : len ≤ maxLen) :
    Calls Tryd.prog 113 #[.agg #[.int .i64 k, .int .i64 n, .string s, .slice a len c]] w fun e w' => e = .returned (.bool (cellB k s len)) ∧ Below w.heap.size w w' := by
  have hm' : len ≤ 9223372036854775807 := by unfold maxLen at hm; omega
  go_enter Tryd.func113, Tryd.ntmps113
  go_wp2_with fail
  all_goals
    go_ret
    refine ⟨retB ?_, below_box1 _ _⟩
    rw [Bool.eq_iff_iff]
    simp [cellB, *]
    try omega
set_option maxHeartbeats 1000000 in
theorem refCell_any (k n : Int) (s : ByteArray) (len : Nat) (a : Option Addr) (c : Nat) (w : World) (hm : len ≤ maxLen) :
    Calls Tryd.prog 68 #[.agg #[.int .i64 k, .int .i64 n, .string s, .slice a len c]] w fun e w' => e = .returned (.bool (cellB k s len)) ∧ Below w.heap.size w w' := by
  have hm' : len ≤ 9223372036854775807 := by unfold maxLen at hm; omega
  go_enter Tryd.func68, Tryd.ntmps68
  go_wp2_with fail
  all_goals
    go_ret
    refine ⟨retB ?_, below_box1 _ _⟩
    rw [Bool.eq_iff_iff]
    simp [cellB, *]
    try omega
def limV (T : Tr) (v : Value) : Value := if isB T then v else .agg #[.int .i64 0, .int .i64 0, .string ⟨#[]⟩, .slice none 0 0]
def limE (T : Tr) : Int := if isB T then 0 else 2
def LimPost (T : Tr) (v : Value) (w : World) (e : Ending) (w' : World) : Prop := e = .returned (.tuple #[limV T v, .int .i64 (limE T)]) ∧ Below w.heap.size w w'
set_option maxRecDepth 100000 in
set_option maxHeartbeats 1000000 in
theorem limited_any (T : Tr) (v : Value) (w : World) (hT : IsT w.heap.size w T v) (hdp : T.deep ≤ 999999999) :
    Calls Tryd.prog 89 #[v] w (LimPost T v w) := by
  cases hTc : T with
  | node k n s ts =>
  subst hTc
  have hT' := hT
  obtain ⟨a', c', rfl, _⟩ := hT'.open
  clear hT'
  have HT := Lib.hid hT
  clear hT
  go_enter Tryd.func89, Tryd.ntmps89
  go_wp2_with fail
  have hblk : Box (((w.alloc (.cells #[.int .i64 k, .int .i64 n, .string s, .slice a' ts.length c'] 25)).alloc (.cells #[.int .i64 0, .int .i64 0, .string ⟨#[]⟩, .slice none 0 0] 25)).alloc (.cells #[.int .i64 k, .int .i64 n, .string s, .slice a' ts.length c'] 25)) (w.heap.size + 1 + 1) #[.int .i64 k, .int .i64 n, .string s, .slice a' ts.length c'] 25 := Box.at (by simp)
  have hb0 : Box (((w.alloc (.cells #[.int .i64 k, .int .i64 n, .string s, .slice a' ts.length c'] 25)).alloc (.cells #[.int .i64 0, .int .i64 0, .string ⟨#[]⟩, .slice none 0 0] 25)).alloc (.cells #[.int .i64 k, .int .i64 n, .string s, .slice a' ts.length c'] 25)) w.heap.size #[.int .i64 k, .int .i64 n, .string s, .slice a' ts.length c'] 25 := ((Box.at rfl).alloc _).alloc _
  have hb1 : Box (((w.alloc (.cells #[.int .i64 k, .int .i64 n, .string s, .slice a' ts.length c'] 25)).alloc (.cells #[.int .i64 0, .int .i64 0, .string ⟨#[]⟩, .slice none 0 0] 25)).alloc (.cells #[.int .i64 k, .int .i64 n, .string s, .slice a' ts.length c'] 25)) (w.heap.size + 1) #[.int .i64 0, .int .i64 0, .string ⟨#[]⟩, .slice none 0 0] 25 := (Box.at (by simp)).alloc _
  have hB0 := below_a3 (Nat.le_refl w.heap.size) (.cells #[.int .i64 k, .int .i64 n, .string s, .slice a' ts.length c'] 25) (.cells #[.int .i64 0, .int .i64 0, .string ⟨#[]⟩, .slice none 0 0] 25) (.cells #[.int .i64 k, .int .i64 n, .string s, .slice a' ts.length c'] 25)
  refine (checkEach_any [.node k n s ts] (some ⟨w.heap.size + 1 + 1, 0, none⟩) 1 _ (by unfold maxLen; simp) ?_ (by simpa using hdp)).mono ?_
  · exact IsL.cons (by simp) (hblk.cell 0) (hblk.cell 1) (hblk.cell 2) (hblk.cell 3) (HT.out.up hB0 hB0.size) IsL.nil
  rintro e w1 ⟨rfl, hB1⟩
  have p0 := Box.keep hB1 hb0
  have p1 := Box.keep hB1 hb1
  have hB2 := hB0.trans (hB1.mono hB0.size)
  have l0 := p0.lt
  have l1 := p1.lt
  clear hB1 hblk hb0 hb1 hB0
  generalize hEQ : [Tr.node k n s ts].all isB = bT
  have hbT : Hid (bT = isB (.node k n s ts)) := by rw [Hid, ← hEQ]; simp
  clear hEQ
  have u0 := p1.cell 0
  have u1 := p1.cell 1
  have u2 := p1.cell 2
  have u3 := p1.cell 3
  have g0 := p1.frozen 0
  have g1 := p1.frozen 1
  have g2 := p1.frozen 2
  have g3 := p1.frozen 3
  have q0 := p0.cell 0
  have q1 := p0.cell 1
  have q2 := p0.cell 2
  have q3 := p0.cell 3
  simp only [List.getElem?_toArray, List.getElem?_cons_succ, List.getElem?_cons_zero] at u0 u1 u2 u3 q0 q1 q2 q3
  clear p0
  cases bT with
  | false =>
    rw [show errI false = 3 from rfl]
    go_wp2_with fail
    have z := p1.four (.int .i64 0) (.int .i64 0) (.string ⟨#[]⟩) (.slice none 0 0)
    have zB := below_four hB2 (by simp) (.int .i64 0) (.int .i64 0) (.string ⟨#[]⟩) (.slice none 0 0) (B := w.heap.size + 1)
    have y0 := z.cell 0
    have y1 := z.cell 1
    have y2 := z.cell 2
    have y3 := z.cell 3
    clear z u0 u1 u2 u3 g0 g1 g2 g3 q0 q1 q2 q3
    generalize (((w1.setCell ⟨w.heap.size + 1, 0, none⟩ (.int .i64 0)).setCell ⟨w.heap.size + 1, 1, none⟩ (.int .i64 0)).setCell ⟨w.heap.size + 1, 2, none⟩ (.string ⟨#[]⟩)).setCell ⟨w.heap.size + 1, 3, none⟩ (.slice none 0 0) = FW at *
    simp at y0 y1 y2 y3
    exact bodyPost_ret (v := .tuple #[.agg #[.int .i64 0, .int .i64 0, .string ⟨#[]⟩, .slice none 0 0], .int .i64 2]) (by simp [results, Tryd.results89, go_sem, y0, y1, y2, y3]) rfl ⟨by unfold limV limE; rw [← hbT.out]; rfl, zB⟩
  | true =>
    rw [show errI true = 0 from rfl]
    go_wp2_with fail
    have z := p1.four (.int .i64 k) (.int .i64 n) (.string s) (.slice a' ts.length c')
    have zB := below_four hB2 (by simp) (.int .i64 k) (.int .i64 n) (.string s) (.slice a' ts.length c') (B := w.heap.size + 1)
    have y0 := z.cell 0
    have y1 := z.cell 1
    have y2 := z.cell 2
    have y3 := z.cell 3
    clear z u0 u1 u2 u3 g0 g1 g2 g3 q0 q1 q2 q3
    generalize (((w1.setCell ⟨w.heap.size + 1, 0, none⟩ (.int .i64 k)).setCell ⟨w.heap.size + 1, 1, none⟩ (.int .i64 n)).setCell ⟨w.heap.size + 1, 2, none⟩ (.string s)).setCell ⟨w.heap.size + 1, 3, none⟩ (.slice a' ts.length c') = FW at *
    simp at y0 y1 y2 y3
    exact bodyPost_ret (v := .tuple #[.agg #[.int .i64 k, .int .i64 n, .string s, .slice a' ts.length c'], .int .i64 0]) (by simp [results, Tryd.results89, go_sem, y0, y1, y2, y3]) rfl ⟨by unfold limV limE; rw [← hbT.out]; rfl, zB⟩

/-- How many elements a slice has. -/
def lenV : Value → Nat
  | .slice _ n _ => n
  | _ => 0
theorem row_lenV {W : World} {base : Nat} {e : TypeId} {size k : Nat} {v : Value} {xs : List Value} (h : W.ownsRow base e size v k xs) : lenV v = k := by
  rcases h.2 with ⟨rfl, h0⟩ | ⟨g, cap, cur, rfl, _⟩
  · exact h0.symm
  · rfl
/-- What Items hands back. -/
def ItemsPost (T : Tr) (w : World) (e : Ending) (w' : World) : Prop :=
  Below w.heap.size w w' ∧ (isB T = false → e = .returned (.tuple #[.slice none 0 0, .agg #[.int .i64 0, .int .i64 0, .string ⟨#[]⟩, .slice none 0 0], .int .i64 3])) ∧
  (isB T = true → ∃ l r a c v, T = listT l r ∧ r.cell = false ∧ e = .returned (.tuple #[.slice a l.length c, v, .int .i64 0]) ∧ l.length ≤ c ∧ c ≤ maxLen ∧ IsPL (New w.heap.size w') w' l a ∧ IsP (New w.heap.size w') w' r v)
/-- Between the rounds of Items: the items so far lie in a row of their own; the rest of the list in the box. -/
structure ItemsAt (T : Tr) (w : World) (lo : Nat) (l : List Tr) (xs : List Value) (k n : Int) (s : ByteArray) (ts : List Tr) (a : Option Addr) (c : Nat) (ov : Value) (wr : World) : Prop where
  eq : T = listT l (.node k n s ts)
  good : (Tr.node k n s ts).good = true
  own : wr.ownsRow lo 25 4 ov l.length xs
  len : xs.length = l.length * 4
  laid : LaidR (NewBut lo ov wr) wr xs l
  box : Box wr w.heap.size #[.int .i64 k, .int .i64 n, .string s, .slice a ts.length c] 25
  out : Box wr (w.heap.size + 1) #[.int .i64 0, .int .i64 0, .string ⟨#[]⟩, .slice none 0 0] 25
  tree : IsT w.heap.size w (.node k n s ts) (.agg #[.int .i64 k, .int .i64 n, .string s, .slice a ts.length c])
  below : Below w.heap.size w wr
  size : (Tr.node k n s ts).size + l.length ≤ T.size
  lo_lt : w.heap.size + 2 ≤ lo ∧ lo ≤ wr.heap.size
theorem ItemsAt.up {T : Tr} {w wr W : World} {lo : Nat} {l : List Tr} {xs : List Value} {k n : Int} {s : ByteArray} {ts : List Tr} {a : Option Addr} {c : Nat} {ov : Value} (h : ItemsAt T w lo l xs k n s ts a c ov wr) (B : Below wr.heap.size wr W) : ItemsAt T w lo l xs k n s ts a c ov W :=
  ⟨h.eq, h.good, h.own.kept (grown_b none B) (by rcases ov.ownBlock with _ | _ <;> simp), h.len, h.laid.map (fun b hb => ⟨⟨hb.1, Nat.lt_of_lt_of_le hb.2.1 B.size, hb.2.2⟩, B.block b hb.2.1⟩), h.box.keep B, h.out.keep B, h.tree, h.below.trans (B.mono h.below.size), h.size, h.lo_lt.1, Nat.le_trans h.lo_lt.2 B.size⟩
def ItemsInv (T : Tr) (w : World) (lo : Nat) (ov : Value) (wr : World) : Prop :=
  ∃ (l : List Tr) (xs : List Value) (k n : Int) (s : ByteArray) (ts : List Tr) (a : Option Addr) (c : Nat), ItemsAt T w lo l xs k n s ts a c ov wr
theorem grown_four (B : Nat) (w : World) (a0 a1 a2 a3 : Value) : w.grownBy ((((w.setCell ⟨B, 0, none⟩ a0).setCell ⟨B, 1, none⟩ a1).setCell ⟨B, 2, none⟩ a2).setCell ⟨B, 3, none⟩ a3) (some B) :=
  ⟨rfl, rfl, rfl, by simp, fun k _ hk => heap_four (fun e => hk (by rw [e])) a0 a1 a2 a3⟩

set_option maxRecDepth 100000 in
set_option maxHeartbeats 4000000 in
theorem Items_any (T : Tr) (v : Value) (w : World) (hT : IsT w.heap.size w T v) (hdp : T.deep ≤ 999999999) :
    Calls Tryd.prog 55 #[v] w (ItemsPost T w) := by
  cases hTc : T with
  | node k n s ts =>
  subst hTc
  have hT' := hT
  obtain ⟨a', c', rfl, _⟩ := hT'.open
  clear hT'
  have HT := Lib.hid hT
  clear hT
  go_enter Tryd.func55, Tryd.ntmps55
  go_wp2_with fail
  have hblk : Box (((w.alloc (.cells #[.int .i64 k, .int .i64 n, .string s, .slice a' ts.length c'] 25)).alloc (.cells #[.int .i64 0, .int .i64 0, .string ⟨#[]⟩, .slice none 0 0] 25)).alloc (.cells #[.int .i64 k, .int .i64 n, .string s, .slice a' ts.length c'] 25)) (w.heap.size + 1 + 1) #[.int .i64 k, .int .i64 n, .string s, .slice a' ts.length c'] 25 := Box.at (by simp)
  have hb0 : Box (((w.alloc (.cells #[.int .i64 k, .int .i64 n, .string s, .slice a' ts.length c'] 25)).alloc (.cells #[.int .i64 0, .int .i64 0, .string ⟨#[]⟩, .slice none 0 0] 25)).alloc (.cells #[.int .i64 k, .int .i64 n, .string s, .slice a' ts.length c'] 25)) w.heap.size #[.int .i64 k, .int .i64 n, .string s, .slice a' ts.length c'] 25 := ((Box.at rfl).alloc _).alloc _
  have hb1 : Box (((w.alloc (.cells #[.int .i64 k, .int .i64 n, .string s, .slice a' ts.length c'] 25)).alloc (.cells #[.int .i64 0, .int .i64 0, .string ⟨#[]⟩, .slice none 0 0] 25)).alloc (.cells #[.int .i64 k, .int .i64 n, .string s, .slice a' ts.length c'] 25)) (w.heap.size + 1) #[.int .i64 0, .int .i64 0, .string ⟨#[]⟩, .slice none 0 0] 25 := (Box.at (by simp)).alloc _
  have hB0 := below_a3 (Nat.le_refl w.heap.size) (.cells #[.int .i64 k, .int .i64 n, .string s, .slice a' ts.length c'] 25) (.cells #[.int .i64 0, .int .i64 0, .string ⟨#[]⟩, .slice none 0 0] 25) (.cells #[.int .i64 k, .int .i64 n, .string s, .slice a' ts.length c'] 25)
  refine (checkEach_any [.node k n s ts] (some ⟨w.heap.size + 1 + 1, 0, none⟩) 1 _ (by unfold maxLen; simp) ?_ (by simpa using hdp)).mono ?_
  · exact IsL.cons (by simp) (hblk.cell 0) (hblk.cell 1) (hblk.cell 2) (hblk.cell 3) (HT.out.up hB0 hB0.size) IsL.nil
  rintro e w1 ⟨rfl, hB1⟩
  have p0 := Box.keep hB1 hb0
  have p1 := Box.keep hB1 hb1
  have hB2 := hB0.trans (hB1.mono hB0.size)
  have l0 := p0.lt
  have l1 := p1.lt
  have hs1 : w.heap.size + 2 ≤ w1.heap.size := by have := hB1.size; simp at this; omega
  clear hB1 hblk hb0 hb1 hB0
  generalize hEQ : [Tr.node k n s ts].all isB = bT
  have hbT : Hid (bT = isB (.node k n s ts)) := by rw [Hid, ← hEQ]; simp
  clear hEQ
  cases bT with
  | false =>
    rw [show errI false = 3 from rfl]
    have u0 := p1.cell 0
    have u1 := p1.cell 1
    have u2 := p1.cell 2
    have u3 := p1.cell 3
    have g0 := p1.frozen 0
    have g1 := p1.frozen 1
    have g2 := p1.frozen 2
    have g3 := p1.frozen 3
    simp only [List.getElem?_toArray, List.getElem?_cons_succ, List.getElem?_cons_zero] at u0 u1 u2 u3
    clear p0
    go_wp2_with fail
    have z := p1.four (.int .i64 0) (.int .i64 0) (.string ⟨#[]⟩) (.slice none 0 0)
    have zB := below_four hB2 (by simp) (.int .i64 0) (.int .i64 0) (.string ⟨#[]⟩) (.slice none 0 0) (B := w.heap.size + 1)
    have y0 := z.cell 0
    have y1 := z.cell 1
    have y2 := z.cell 2
    have y3 := z.cell 3
    clear z u0 u1 u2 u3 g0 g1 g2 g3
    generalize (((w1.setCell ⟨w.heap.size + 1, 0, none⟩ (.int .i64 0)).setCell ⟨w.heap.size + 1, 1, none⟩ (.int .i64 0)).setCell ⟨w.heap.size + 1, 2, none⟩ (.string ⟨#[]⟩)).setCell ⟨w.heap.size + 1, 3, none⟩ (.slice none 0 0) = FW at *
    simp at y0 y1 y2 y3
    exact bodyPost_ret (v := .tuple #[.slice none 0 0, .agg #[.int .i64 0, .int .i64 0, .string ⟨#[]⟩, .slice none 0 0], .int .i64 3]) (by simp [results, Tryd.results55, go_sem, y0, y1, y2, y3]) rfl ⟨zB, fun _ => rfl, fun h => by rw [← hbT.out] at h; cases h⟩
  | true =>
    rw [show errI true = 0 from rfl]
    have hTb : isB (.node k n s ts) = true := hbT.out.symm
    have hz := isB_size hTb
    have hI0 : ItemsAt (.node k n s ts) w w1.heap.size [] [] k n s ts a' c' (.slice none 0 0) w1 := ⟨rfl, (isB_is hTb).1, World.ownsRow_nil _ _ _ _, rfl, LaidR.nil, p0, p1, HT.out, hB2, by simp, hs1, Nat.le_refl _⟩
    have HI0 := Lib.hid hI0
    have HTb := Lib.hid hTb
    clear hI0 hTb hbT p0 p1 hB2
    obtain ⟨i0, hi, hz0, hz1, hz2⟩ := info_parts infoTerm
    go_wp2_with fail
    go_loopw [6] (fun ov wr => ItemsInv (.node k n s ts) w w1.heap.size ov wr) (fun ov _ => (Tr.node k n s ts).size - lenV ov)
    case atStart => exact ⟨[], [], k, n, s, ts, a', c', HI0.out⟩
    case round =>
      obtain ⟨l, xs, k', n', s', ts', a2, c2, hA⟩ := hrel
      have HA := Lib.hid hA
      have q0 := hA.box.cell 0
      have q1 := hA.box.cell 1
      have q2 := hA.box.cell 2
      have q3 := hA.box.cell 3
      have hlt := hA.box.lt
      simp only [List.getElem?_toArray, List.getElem?_cons_succ, List.getElem?_cons_zero] at q0 q1 q2 q3
      obtain ⟨a3, c3, he, _, _, _, h4, h5, hL⟩ := hA.tree.open
      cases he
      have hm : ts'.length ≤ maxLen := Nat.le_trans h4 h5
      have hl' := row_lenV hA.own
      have HL := Lib.hid hL
      clear hA hL
      go_wp2_with fail
      refine (isCell_any k' n' s' ts'.length a2 c2 wr hm).mono ?_
      rintro e W1 ⟨rfl, B⟩
      have HB := Lib.hid (HA.out.up B)
      clear B q0 q1 q2 q3
      cases hc : cellB k' s' ts'.length with
      | false =>
        have q0 := HB.out.box.cell 0
        have q1 := HB.out.box.cell 1
        have q2 := HB.out.box.cell 2
        have q3 := HB.out.box.cell 3
        have hlt1 := HB.out.box.lt
        simp only [List.getElem?_toArray, List.getElem?_cons_succ, List.getElem?_cons_zero] at q0 q1 q2 q3
        have HC := Lib.hid hc
        clear hc
        go_wp2_with fail
        refine (copyTerm_any (.node k' n' s' ts') _ _ (HB.out.tree.up HB.out.below HB.out.below.size) (by have := HB.out.size; omega)).mono ?_
        rintro e W2 ⟨x, rfl, hP, B⟩
        obtain ⟨xk, xn, xs', xa, xm, xc, rfl⟩ := hP.form
        have hD := HB.out.up B
        have hout := hD.out
        have u0 := hout.cell 0
        have u1 := hout.cell 1
        have u2 := hout.cell 2
        have u3 := hout.cell 3
        have g0 := hout.frozen 0
        have g1 := hout.frozen 1
        have g2 := hout.frozen 2
        have g3 := hout.frozen 3
        have hlt2 := hout.lt
        simp only [List.getElem?_toArray, List.getElem?_cons_succ, List.getElem?_cons_zero] at u0 u1 u2 u3
        have HD := Lib.hid hD
        have HP := Lib.hid hP
        clear B hP hD q0 q1 q2 q3
        go_wp2_with fail
        have z := hout.four (.int .i64 xk) (.int .i64 xn) (.string xs') (.slice xa xm xc)
        have zB := below_four HD.out.below (by omega) (.int .i64 xk) (.int .i64 xn) (.string xs') (.slice xa xm xc) (B := w.heap.size + 1)
        have hlo := HD.out.lo_lt
        have hsz1 : w.heap.size + 2 ≤ W1.heap.size := by have := HB.out.lo_lt; omega
        obtain ⟨ra, rc, hre, hr1, hr2, hr3⟩ := LaidR.done HD.out.laid HD.out.own
        have hr4 : IsPL (New w1.heap.size ((((W2.setCell ⟨w.heap.size + 1, 0, none⟩ (.int .i64 xk)).setCell ⟨w.heap.size + 1, 1, none⟩ (.int .i64 xn)).setCell ⟨w.heap.size + 1, 2, none⟩ (.string xs')).setCell ⟨w.heap.size + 1, 3, none⟩ (.slice xa xm xc))) ((((W2.setCell ⟨w.heap.size + 1, 0, none⟩ (.int .i64 xk)).setCell ⟨w.heap.size + 1, 1, none⟩ (.int .i64 xn)).setCell ⟨w.heap.size + 1, 2, none⟩ (.string xs')).setCell ⟨w.heap.size + 1, 3, none⟩ (.slice xa xm xc)) l ra :=
          IsPL.map (fun b hb => ⟨⟨hb.1, by simpa using hb.2⟩, heap_four (by have := hb.1; omega) _ _ _ _⟩) l ra hr3
        have hr5 := HP.out.four (B := w.heap.size + 1) (lo' := w.heap.size) (by omega) (by omega) (.int .i64 xk) (.int .i64 xn) (.string xs') (.slice xa xm xc)
        have y0 := z.cell 0
        have y1 := z.cell 1
        have y2 := z.cell 2
        have y3 := z.cell 3
        clear z u0 u1 u2 u3 g0 g1 g2 g3
        generalize (((W2.setCell ⟨w.heap.size + 1, 0, none⟩ (.int .i64 xk)).setCell ⟨w.heap.size + 1, 1, none⟩ (.int .i64 xn)).setCell ⟨w.heap.size + 1, 2, none⟩ (.string xs')).setCell ⟨w.heap.size + 1, 3, none⟩ (.slice xa xm xc) = FW at *
        simp at y0 y1 y2 y3
        subst hre
        exact bodyPost_ret (v := .tuple #[.slice ra l.length rc, .agg #[.int .i64 xk, .int .i64 xn, .string xs', .slice xa xm xc], .int .i64 0]) (by simp [results, Tryd.results55, go_sem, y0, y1, y2, y3]) rfl
          ⟨zB, fun h => (by rw [HTb.out] at h; cases h), fun _ => ⟨l, _, ra, rc, _, HD.out.eq, HC.out, rfl, hr1, hr2, IsPL.map (fun b hb => ⟨⟨by have := hb.1; omega, hb.2⟩, rfl⟩) l ra hr4, hr5⟩⟩
      | true =>
        obtain ⟨x, y, rfl, hxy, hgx, hgy⟩ := good_cell HA.out.good hc
        obtain ⟨b, off, rfl, hb⟩ := HL.out.addr (by simp)
        obtain ⟨tk, tn, tss, tl, ta, tc, te, d0, d1, d2, d3, ht⟩ := HL.out.node' hb HB.out.below 0 (by simp)
        have q3 := HB.out.box.cell 3
        have hlt1 := HB.out.box.lt
        have hbl : b < W1.heap.size := by omega
        simp only [List.getElem?_toArray, List.getElem?_cons_succ, List.getElem?_cons_zero] at q3
        have hsx : (cellT x y).size = 1 + (x.size + (y.size + 0)) := rfl
        have HS := Lib.hid hxy
        have HT0 := Lib.hid te
        clear te hxy hc
        simp only [List.length_cons, List.length_nil, Nat.zero_add] at q3
        simp only [Nat.zero_mul, Nat.add_zero] at d0 d1 d2 d3
        go_wp2_with fail
        refine (copyTerm_any x _ _ (ht.up HB.out.below HB.out.below.size) (by have := HB.out.size; have := congrArg Tr.size HS.out; omega)).mono ?_
        rintro e W2 ⟨vx, rfl, hP, B⟩
        obtain ⟨xk, xn, xs', xa, xm, xc, rfl⟩ := hP.form
        have hB1u : ∀ j, u6.ownBlock = some j → j < W1.heap.size := fun j hj => (HB.out.own.lt j hj).2
        have HD := Lib.hid (HB.out.up B)
        have HP := Lib.hid hP
        have hown := HD.out.own
        have hlo := HD.out.lo_lt
        have hll : l.length ≤ 4000 := by have := HD.out.size; omega
        have hs12 := B.size
        clear B hP ht d0 d1 d2 d3 q3
        go_wp2_with (at_builtin; refine wpList_append_where rfl _ _ 22 rfl w1.heap.size 25 i0 _ 4 56 Tryd.underlying22 hi hz0 hz1 hz2 rfl (by decide) _ _ _ rfl (World.ownsRow.alloc hown _) ⟨W2.heap.size, 0, none⟩ 1 1 [.int .i64 xk, .int .i64 xn, .string xs', .slice xa xm xc] rfl rfl (cells_of_box (Box.at rfl)) (fun u hu => by simp only [List.mem_cons, List.not_mem_nil, or_false] at hu; rcases hu with rfl | rfl | rfl | rfl <;> rfl) (by unfold maxLen; omega) (by omega) (by simp; omega) ?_)
        intro v2 w3 hown3 hgrow hwh
        have hnb : ∀ j, u6.ownBlock = some j → w1.heap.size ≤ j ∧ j < W2.heap.size := fun j hj => hown.lt j hj
        have h3s := hgrow.size
        simp only [World.size_alloc] at h3s
        have hBw : Below w.heap.size w w3 := (HD.out.below.alloc HD.out.below.size _).trans (grown_below' hgrow (by have := HD.out.below.size; simp; omega) (fun g hg => by have := (hnb g hg).1; omega))
        have hbx3 : Box w3 w.heap.size #[.int .i64 k', .int .i64 n', .string s', .slice (some ⟨b, off, none⟩) [x, y].length c2] 25 := (hgrow.block _ (HD.out.box.alloc _).lt (fun e => by have := (hnb _ e.symm).1; omega)).trans (HD.out.box.alloc _)
        have hou3 : Box w3 (w.heap.size + 1) #[.int .i64 0, .int .i64 0, .string ⟨#[]⟩, .slice none 0 0] 25 := (hgrow.block _ (HD.out.out.alloc _).lt (fun e => by have := (hnb _ e.symm).1; omega)).trans (HD.out.out.alloc _)
        obtain ⟨yk, yn, ys', yl, ya, yc, ye, d0, d1, d2, d3, hty⟩ := HL.out.node' hb hBw 1 (by simp)
        simp only [List.getElem_cons_succ, List.getElem_cons_zero] at ye hty
        subst ye
        have hv2 : ∀ j, v2.ownBlock = some j → w1.heap.size ≤ j := fun j hj => (hown3.lt j hj).1
        have hlo1 := HB.out.lo_lt.2
        have hw2 : ∀ i, v2.ownBlock = some i → u6.ownBlock = some i ∨ W2.heap.size ≤ i := fun i h => (hwh i h).imp id (fun h => by first | exact h | omega | (rw [World.size_alloc] at h; omega))
        have hm1 : ∀ i, NewBut w1.heap.size u6 W2 i → NewBut w1.heap.size v2 ((((w3.setCell ⟨w.heap.size, 0, none⟩ (.int .i64 yk)).setCell ⟨w.heap.size, 1, none⟩ (.int .i64 yn)).setCell ⟨w.heap.size, 2, none⟩ (.string ys')).setCell ⟨w.heap.size, 3, none⟩ (.slice ya yl.length yc)) i ∧ ((((w3.setCell ⟨w.heap.size, 0, none⟩ (.int .i64 yk)).setCell ⟨w.heap.size, 1, none⟩ (.int .i64 yn)).setCell ⟨w.heap.size, 2, none⟩ (.string ys')).setCell ⟨w.heap.size, 3, none⟩ (.slice ya yl.length yc)).heap[i]? = W2.heap[i]? := fun i ⟨h1, h2, h3⟩ => by
          refine ⟨⟨h1, by simp; omega, fun e => ?_⟩, ?_⟩
          · rcases hw2 i e.symm with h | h
            · exact h3 h.symm
            · omega
          · rw [heap_four (by omega), hgrow.block i (by simp; omega) h3]
            exact Below.heap_alloc W2 _ i h2
        have hm2 : ∀ i, New W1.heap.size W2 i → NewBut w1.heap.size v2 ((((w3.setCell ⟨w.heap.size, 0, none⟩ (.int .i64 yk)).setCell ⟨w.heap.size, 1, none⟩ (.int .i64 yn)).setCell ⟨w.heap.size, 2, none⟩ (.string ys')).setCell ⟨w.heap.size, 3, none⟩ (.slice ya yl.length yc)) i ∧ ((((w3.setCell ⟨w.heap.size, 0, none⟩ (.int .i64 yk)).setCell ⟨w.heap.size, 1, none⟩ (.int .i64 yn)).setCell ⟨w.heap.size, 2, none⟩ (.string ys')).setCell ⟨w.heap.size, 3, none⟩ (.slice ya yl.length yc)).heap[i]? = W2.heap[i]? := fun i ⟨h1, h2⟩ => hm1 i ⟨by omega, h2, fun e => by have := hB1u i e.symm; omega⟩
        have hI : ItemsAt (.node k n s ts) w w1.heap.size (l ++ [x]) (xs ++ [.int .i64 xk, .int .i64 xn, .string xs', .slice xa xm xc]) yk yn ys' yl ya yc v2 ((((w3.setCell ⟨w.heap.size, 0, none⟩ (.int .i64 yk)).setCell ⟨w.heap.size, 1, none⟩ (.int .i64 yn)).setCell ⟨w.heap.size, 2, none⟩ (.string ys')).setCell ⟨w.heap.size, 3, none⟩ (.slice ya yl.length yc)) := by
          refine ⟨?_, hgy, ?_, ?_, ?_, hbx3.four _ _ _ _, ?_, hty, below_four hBw (Nat.le_refl _) _ _ _ _, ?_, hs1, ?_⟩
          · rw [listT_snoc, ← HS.out]; exact HD.out.eq
          · rw [len_snoc]
            exact hown3.kept (grown_four w.heap.size w3 _ _ _ _) (.inr (fun e => by have := hv2 _ e; omega))
          · have := HD.out.len
            simp only [List.length_append, List.length_cons, List.length_nil]
            omega
          · exact LaidR.snoc (LaidR.map HD.out.laid hm1) HD.out.len (IsP.map hm2 _ _ HP.out)
          · exact (((hou3.other (by omega) 0 _).other (by omega) 1 _).other (by omega) 2 _).other (by omega) 3 _
          · have := HD.out.size
            have := congrArg Tr.size HS.out
            simp only [List.length_append, List.length_cons, List.length_nil]
            omega
          · simp; omega
        have HI := Lib.hid hI
        have q0 := hbx3.cell 0
        have q1 := hbx3.cell 1
        have q2 := hbx3.cell 2
        have q3 := hbx3.cell 3
        have g0 := hbx3.frozen 0
        have g1 := hbx3.frozen 1
        have g2 := hbx3.frozen 2
        have g3 := hbx3.frozen 3
        have hlt3 := hbx3.lt
        have hbl3 : b < w3.heap.size := by omega
        have hsl : l.length + 1 ≤ (Tr.node k n s ts).size := by have := HD.out.size; have := congrArg Tr.size HS.out; omega
        have hlv2 := row_lenV hown3
        simp only [List.getElem?_toArray, List.getElem?_cons_succ, List.getElem?_cons_zero, List.length_cons, List.length_nil, Nat.zero_add] at q0 q1 q2 q3
        simp only [Nat.one_mul] at d0 d1 d2 d3
        clear hI hbx3 hou3 hown3 hgrow hwh hnb hBw hty hv2 hown
        go_wp2_with fail
        go_roundw
        case rel => exact ⟨_, _, _, _, _, _, _, _, HI.out⟩
        case measure => rw [hl', hlv2]; omega
end Go.Proofs.YtdigiaigbcfccaaDoor

/- A list is made of items from the last to the first: what Backward hands back, and the round that lays a cell. -/
namespace Go.Proofs.YtdigiaigbcfccaaDoor
open Go.RowKit Go

attribute [local go_sem] Oper.semAt_some

mutual
theorem IsP.solid {p : Nat → Prop} {W : World} : ∀ (T : Tr) (v : Value), IsP p W T v → IsP (fun b => p b ∧ ∃ o, W.heap[b]? = some o ∧ o.isCells = true) W T v
  | .node k n s l, v, h => by
    unfold IsP at h ⊢
    obtain ⟨a, c, e, h1, h2, h3, h4, h5, h6⟩ := h
    exact ⟨a, c, e, h1, h2, h3, h4, h5, IsPL.solid l a h6⟩
theorem IsPL.solid {p : Nat → Prop} {W : World} : ∀ (l : List Tr) (a : Option Addr), IsPL p W l a → IsPL (fun b => p b ∧ ∃ o, W.heap[b]? = some o ∧ o.isCells = true) W l a
  | [], _, _ => IsPL.nil
  | t :: ts, a, h => by
    unfold IsPL at h ⊢
    obtain ⟨b, off, v0, v1, v2, v3, e, hp, c0, c1, c2, c3, ht, hl⟩ := h
    exact ⟨b, off, v0, v1, v2, v3, e, ⟨hp, cells_of_cell c0⟩, c0, c1, c2, c3, IsP.solid t _ ht, IsPL.solid ts _ hl⟩
end

/-- An element that Backward yields: its index, its tree, its value. -/
abbrev Bk (n₀ : Nat) (W₀ : World) := { x : Int × Tr × Value // IsT n₀ W₀ x.2.1 x.2.2 ∧ x.2.1.size ≤ 1000000 }
def Bk.encs {n₀ : Nat} {W₀ : World} (x : Bk n₀ W₀) : Array Value := #[.int .i64 x.1.1, x.1.2.2]
def Bk.tr {n₀ : Nat} {W₀ : World} (x : Bk n₀ W₀) : Tr := x.1.2.1
/-- What lies below keeps, and the iterator's box. -/
structure KB (n₀ Bt : Nat) (A B : World) : Prop where
  below : Below n₀ A B
  box : ∀ (c : Array Value) (t : TypeId) (fr : Nat × Nat), A.heap[Bt]? = some (Obj.cells c t fr) → B.heap[Bt]? = some (Obj.cells c t fr)
theorem KB.refl (n₀ Bt : Nat) (A : World) : KB n₀ Bt A A := ⟨Below.refl _ _, fun _ _ _ h => h⟩
theorem KB.trans {n₀ Bt : Nat} {A B C : World} (h : KB n₀ Bt A B) (k : KB n₀ Bt B C) : KB n₀ Bt A C := ⟨h.below.trans k.below, fun c t fr hi => k.box c t fr (h.box c t fr hi)⟩
theorem KB.bookkeeping {n₀ Bt : Nat} {w : World} (hn : n₀ ≤ w.heap.size) (W : World) (l : Nat) (o o' : Obj) (hl : w.heap.size ≤ l) (h : W.heap[l]? = some o) (ho : o.isCells = false) (hk : o.isWalk = false) : KB n₀ Bt W (W.putObj l o') :=
  ⟨belowK_b hn W l o o' hl h ho hk, fun c t fr hc => by
    rw [World.putObj_heap_other (fun e => by subst e; rw [h] at hc; cases hc; cases ho)]
    exact hc⟩

set_option maxRecDepth 100000 in
set_option maxHeartbeats 2000000 in
theorem back_in (F : Fence) (hd : F.depth = none) (n : Nat) (hf : ∀ f, F.fn f) (hro : F.round = none) (l Bt n₀ : Nat) (W₀ : World) (ts : List Tr) (a : Option Addr) (c : Nat) (hL : IsL n₀ W₀ ts a) (hz : ∀ t, t ∈ ts → t.size ≤ 1000000) (hm : ts.length ≤ maxLen) (J Jx : List (Bk n₀ W₀) → World → Prop)
    (hY : ∀ pre (x : Bk n₀ W₀) W, J pre W → pre.length < ts.length → YieldAt F (n - 1) Tryd.prog l x.encs W fun e W' =>
      (e = .returned (.bool true) ∧ J (pre ++ [x]) W' ∧ KB n₀ Bt W W') ∨ (e = .returned (.bool false) ∧ Jx (pre ++ [x]) W'))
    (W : World) (hBt : Box W Bt #[.slice a ts.length c] 22) (hBW : Below n₀ W₀ W) (hnW : n₀ ≤ W.heap.size) (h0 : J [] W) :
    CallsIn F n Tryd.prog 132 #[.func (.yield l) #[] #[], .pointer (some ⟨Bt, 0, none⟩)] W fun e W' => (∃ v, e = .returned v) ∧
      ((∃ ys : List (Bk n₀ W₀), ys.map Bk.tr = ts.reverse ∧ J ys W') ∨ (∃ pre : List (Bk n₀ W₀), pre.map Bk.tr <+: ts.reverse ∧ Jx pre W')) := by
  have hm' : ts.length ≤ 9223372036854775807 := by unfold maxLen at hm; omega
  have hdd : ∀ k : Nat, (F.depth.isSome = true → 1 ≤ k) := fun k h => by rw [hd] at h; cases h
  have hc0 := hBt.cell 0
  simp only [List.getElem?_toArray, List.getElem?_cons_zero] at hc0
  have HY := Lib.hid hY
  have HL := Lib.hid hL
  have HBt := Lib.hid hBt
  clear hY hL hBt
  refine callsIn_of_wp Tryd.func132 rfl (hf _) ?_ hro
  simp only [Tryd.ntmps132, List.size_toArray, List.length_cons, List.length_nil, Nat.reduceAdd, Nat.reduceSub, Array.replicate_succ, Array.replicate_zero, List.push_toArray, List.append_toArray, List.nil_append, List.cons_append]
  gi_wp2_with fail
  gi_loopw [3] (fun i wr => ∃ ys : List (Bk n₀ W₀), ys.length ≤ ts.length ∧ i = .int .i64 ((ts.length : Int) - 1 - ys.length) ∧ ys.map Bk.tr = ts.reverse.take ys.length ∧ J ys wr ∧ KB n₀ Bt W wr) (fun i _ => (intOf i + 1).toNat)
  case atStart => exact ⟨[], Nat.zero_le _, by simp, rfl, h0, KB.refl _ _ _⟩
  case round =>
    obtain ⟨ys, hy, rfl, hys, hJ, hK⟩ := hrel
    have Hys := Lib.hid hys
    clear hys hc0
    by_cases hlt : ys.length < ts.length
    · obtain ⟨b, off, rfl, hb⟩ := HL.out.addr (by omega)
      have hj : ts.length - 1 - ys.length < ts.length := by omega
      obtain ⟨tk, tn, tss, tl, ta, tc, te, c0, c1, c2, c3, ht⟩ := HL.out.node' hb (hBW.trans hK.below) (ts.length - 1 - ys.length) hj
      have hbx : Box wr Bt #[.slice (some ⟨b, off, none⟩) ts.length c] 22 := hK.box _ _ _ HBt.out
      have q0 := hbx.cell 0
      simp only [List.getElem?_toArray, List.getElem?_cons_zero] at q0
      have hlq := hbx.lt
      have hbw : b < wr.heap.size := by have := hK.below.size; omega
      have hx := HY.out ys ⟨((ts.length : Int) - 1 - ys.length, ts[ts.length - 1 - ys.length], _), ht, hz _ (List.getElem_mem hj)⟩ wr hJ hlt
      dsimp only [Bk.encs] at hx
      have hx' := yield_any hd (n - 1) hx
      obtain ⟨fn, tmps, assign, body, hy', hR⟩ := hx'
      have hsn : ys.map Bk.tr ++ [ts[ts.length - 1 - ys.length]] = ts.reverse.take (ys.length + 1) := by rw [List.take_succ_eq_append_getElem (by simpa using hlt), List.getElem_reverse, Hys.out]
      have HS := Lib.hid hsn
      clear hsn
      have hji : ((ts.length : Int) - 1 - ys.length) = ((ts.length - 1 - ys.length : Nat) : Int) := by omega
      rw [hji] at hR hy' ⊢
      generalize ts.length - 1 - ys.length = j at *
      have Te := Lib.hid te
      clear te hx hbx
      gi_wp2_with fail
      refine hR.mono ?_
      rintro e W1 (⟨rfl, hJ1, hk1⟩ | ⟨rfl, hJx1⟩)
      · clear hR hy'
        have HJ1 := Lib.hid hJ1
        clear hJ1
        gi_wp2_with fail
        go_roundw
        case rel =>
          refine ⟨_, ?_, ?_, ?_, HJ1.out, hK.trans hk1⟩
          · simp; omega
          · go_num
          · rw [List.map_append, len_snoc]; exact HS.out
        case measure => first | (simp [intOf]; done) | (simp [intOf]; omega)
      · clear hR hy'
        have HJ1 := Lib.hid hJx1
        clear hJx1
        gi_wp2_with fail
        refine bodyPost_ret (results_none rfl _ _ _) rfl ?_
        refine ⟨⟨_, rfl⟩, .inr ⟨_, ?_, HJ1.out⟩⟩
        have hp := List.take_prefix (ys.length + 1) ts.reverse
        rw [← HS.out] at hp
        rw [List.map_append]
        exact hp
    · gi_wp2_with fail
      go_end0
      refine ⟨⟨_, rfl⟩, .inl ⟨ys, ?_, hJ⟩⟩
      rw [Hys.out, List.take_of_length_le (by simp; omega)]

/-- Backward(items): the slice in a box; the function captures the box. -/
theorem back_any (a : Option Addr) (len c : Nat) (w : World) :
    Calls Tryd.prog 111 #[.slice a len c] w fun e w' => e = .returned (.func (.func 132) #[] #[.pointer (some ⟨w.heap.size, 0, none⟩)]) ∧ w' = w.alloc (.cells #[.slice a len c] 22) := by
  go_enter Tryd.func111, Tryd.ntmps111
  go_wp2_with fail
  go_ret
  exact ⟨rfl, rfl⟩
theorem back_stops (F : Fence) (hd : F.depth = none) (n : Nat) (hf : ∀ f, F.fn f) (hro : F.round = none) (Bt n₀ : Nat) (ts : List Tr) (a : Option Addr) (c : Nat) (W₀ w : World) (hL : IsL n₀ W₀ ts a) (hz : ∀ t, t ∈ ts → t.size ≤ 1000000) (hm : ts.length ≤ maxLen) (hBt : Box w Bt #[.slice a ts.length c] 22) (hBW : Below n₀ W₀ w) (hn₀ : n₀ ≤ w.heap.size) :
    SeqStopsK F n Tryd.prog 132 #[.pointer (some ⟨Bt, 0, none⟩)] (Bk.encs (n₀ := n₀) (W₀ := W₀)) (KB n₀ Bt) (fun ys => ys.map Bk.tr = ts.reverse) (fun pre => pre.map Bk.tr <+: ts.reverse) ts.length w := fun l J Jx W hW _ _ hY h0 =>
  back_in F hd n hf hro l Bt n₀ W₀ ts a c hL hz hm J Jx hY W (hBt.keep hW) (hBW.trans (hW.mono hn₀)) (Nat.le_trans hn₀ hW.size) h0

theorem range_back {F : Fence} {n : Nat} (hd : F.depth = none) (hf : ∀ f, F.fn f) (hro : F.round = none) (h1 : 1 ≤ n) {g : Operand} {ps : Array Tmp} {assign body : Code} {Q : Exit → Act → World → Prop} {ac : Act} {w : World}
    (Bt n₀ : Nat) (ts : List Tr) (a : Option Addr) (c : Nat) (W₀ : World) (hg : ac.eval g = .func (.func 132) #[] #[.pointer (some ⟨Bt, 0, none⟩)]) (hBt : Box w Bt #[.slice a ts.length c] 22) (hBW : Below n₀ W₀ w) (hn₀ : n₀ ≤ w.heap.size)
    (hL : IsL n₀ W₀ ts a) (hz : ∀ t, t ∈ ts → t.size ≤ 1000000) (hm : ts.length ≤ maxLen) (hps : ps.size = 2)
    (I : List (Bk n₀ W₀) → World → Prop) (hI : OwnFrom w.heap.size I) (h0 : I [] w)
    (h : ∃ a₂ : Int → Value → Nat → Act, (∀ (l : Nat) (pre : List (Bk n₀ W₀)) (x : Bk n₀ W₀) (W : World) (K : Act → World → Prop), I pre W →
        (∀ Bx W', KeepsFrom w.heap.size W W' → KB n₀ Bt W W' → I pre W' → W'.heap[Bx]? = some (.cells x.1.2.2.cells 25 (0, 0)) → K (a₂ x.1.1 x.1.2.2 Bx) W') →
        assign.wpIn (F.inRound l) (n - 1 - 1) Tryd.prog (Exit.then K (fun _ _ _ => False)) { tmps := (ps.zip x.encs).foldl (fun t (p, v) => t.setIfInBounds p v) ac.tmps, defers := [] } W) ∧
      (∀ (l : Nat) (pre : List (Bk n₀ W₀)) (x : Bk n₀ W₀) (Bx : Nat) (W : World), I pre W → W.heap[Bx]? = some (.cells x.1.2.2.cells 25 (0, 0)) → pre.length < ts.length → body.wpIn (F.inRound l) (n - 1 - 1) Tryd.prog (ownPostG w.heap.size (KB n₀ Bt) I (fun _ _ _ => False) (pre ++ [x]) W) (a₂ x.1.1 x.1.2.2 Bx) W) ∧
      (∀ (D : Nat) (xs : List (Bk n₀ W₀)) (W : World), w.heap.size ≤ D → xs.map Bk.tr = ts.reverse → I xs W → W.heap[D]? = some (.deferred (some [])) → Q .normal { ac with defers := { target := .collected D, args := #[] } :: ac.defers } W)) :
    (Code.rangeFunc g ps assign body).wpIn F n Tryd.prog Q ac w := by
  obtain ⟨a₂, hA, hB, hD⟩ := h
  exact wpIn_rangeFunc_ownH hro h1 (gf := 132) (lb := #[.pointer (some ⟨Bt, 0, none⟩)]) hg (hf _) (enters_of Tryd.func132 (by kernel_rfl) rfl)
    (back_stops F hd (n - 1) hf hro Bt n₀ ts a c W₀ w hL hz hm hBt hBW hn₀) KB.trans (KB.bookkeeping hn₀) (Below.refl _ _) (fun x => by rw [hps]; rfl) I (fun _ _ _ => False) hI (fun _ _ _ _ _ h _ _ => h) h0
    (fun x a' W => ∃ Bx, W.heap[Bx]? = some (.cells x.1.2.2.cells 25 (0, 0)) ∧ a' = a₂ x.1.1 x.1.2.2 Bx)
    (fun x a' _ X Y row hs hg hrow => by
      obtain ⟨Bx, h2, h3⟩ := hs
      refine ⟨Bx, (hg.block Bx (Array.getElem?_eq_some_iff.1 h2).1 (fun e => ?_)).trans h2, h3⟩
      obtain ⟨_, o, ho, hc⟩ := hrow Bx e.symm
      rw [h2] at ho
      cases ho
      cases hc)
    (fun l pre x W K hi hK => hA l pre x W K hi fun Bx W' h2 h3 h4 h5 => hK _ _ h2 h3 h4 ⟨Bx, h5, rfl⟩)
    (fun l pre x a' W _ _ hi ⟨Bx, h2, h3⟩ hN => by subst h3; exact hB l pre x Bx W hi h2 hN) hD (fun _ _ _ _ _ _ h _ => h.elim)
end Go.Proofs.YtdigiaigbcfccaaDoor

/- List of terms makes the list, or says that it is beyond the limits. -/
namespace Go.Proofs.YtdigiaigbcfccaaDoor
open Go.RowKit Go

attribute [local go_sem] Oper.semAt_some monoUpon Yld.says

theorem listT_deep {R : Tr} (hR : R.deep ≤ 600) : ∀ l : List Tr, (∀ t, t ∈ l → t.deep ≤ 600) → (listT l R).deep ≤ 600 + l.length
  | [], _ => by simpa [listT] using hR
  | t :: l, h => by
    have h1 := listT_deep hR l (fun x hx => h x (List.mem_cons_of_mem _ hx))
    have h2 := h t (by simp)
    rw [listT_cons]
    simp only [cellT, Tr.deep, deepL, List.length_cons]
    omega
/-- Blocks of a tree under construction, but the box. -/
def Sol (lo ob : Nat) (W : World) (b : Nat) : Prop := (lo ≤ b ∧ b < W.heap.size ∧ b ≠ ob) ∧ ∃ o, W.heap[b]? = some o ∧ o.isCells = true
/-- Between the rounds of List. -/
def ListInv (w : World) (lo ob : Nat) (R : Tr) {n₀ : Nat} {W₀ : World} (pre : List (Bk n₀ W₀)) (W : World) : Prop :=
  ∃ k n s a m c, Box W ob #[.int .i64 k, .int .i64 n, .string s, .slice a m c] 25 ∧ IsP (Sol lo ob W) W (listT (pre.map Bk.tr).reverse R) (.agg #[.int .i64 k, .int .i64 n, .string s, .slice a m c]) ∧ Box W (w.heap.size + 1) #[.int .i64 0, .int .i64 0, .string ⟨#[]⟩, .slice none 0 0] 25 ∧ Below w.heap.size w W
theorem Box.turned {X Y : World} {B : Nat} {cs : Array Value} {t : TypeId} {row : Option Nat} (h : Box X B cs t) (hg : X.grownBy Y row) (hr : ∀ r, row = some r → ∃ o : Obj, X.heap[r]? = some o ∧ o.isCells = false) : Box Y B cs t :=
  Box.own B t (fun _ : Unit => cs) () X Y row h hg hr
theorem Sol.turned {X Y : World} {lo ob : Nat} {T : Tr} {v : Value} {row : Option Nat} (h : IsP (Sol lo ob X) X T v) (hg : X.grownBy Y row) (hr : ∀ r, row = some r → ∃ o : Obj, X.heap[r]? = some o ∧ o.isCells = false) : IsP (Sol lo ob Y) Y T v :=
  IsP.map (fun b ⟨⟨h1, h2, h3⟩, o, ho, hc⟩ => by
    have e : Y.heap[b]? = X.heap[b]? := hg.block b h2 (fun e => by
      obtain ⟨o', ho', hc'⟩ := hr b e.symm
      rw [ho] at ho'
      cases ho'
      rw [hc] at hc'
      cases hc')
    exact ⟨⟨⟨h1, Nat.lt_of_lt_of_le h2 hg.size, h3⟩, o, e.trans ho, hc⟩, e⟩) _ _ h
theorem ListInv.own {w : World} {lo ob : Nat} {R : Tr} {n₀ : Nat} {W₀ : World} {B : Nat} (hB : w.heap.size ≤ B) : OwnFrom B (ListInv w lo ob R (n₀ := n₀) (W₀ := W₀)) := fun _ X Y row ⟨k, n, t, a, m, c, h1, h2, h3, h4⟩ hg hr =>
  ⟨k, n, t, a, m, c, h1.turned hg (fun r e => (hr r e).2), Sol.turned h2 hg (fun r e => (hr r e).2), h3.turned hg (fun r e => (hr r e).2), ownFrom_below (β := Unit) (Nat.le_refl _) hB () X Y row h4 hg hr⟩

/-- A tree of new blocks. -/
theorem IsNewT.steady (lo : Nat) (T : Tr) : (Yld.any (IsNewT lo T)).stable := fun _ _ _ he h => ⟨Nat.le_trans h.1 (Below.size he), New.below h.2 he (Nat.le_refl _)⟩
/-- A row of two trees: a new one, and what was known. -/
def IsTwo (lo : Nat) (T : Tr) (u : Array Value) (x : Value) (W : World) : Prop := ∃ g v0 v1 v2 v3 u0 u1 u2 u3, u = #[u0, u1, u2, u3] ∧ x = .slice (some ⟨g, 0, none⟩) 2 2 ∧ lo ≤ g ∧ Box W g #[v0, v1, v2, v3, u0, u1, u2, u3] 25 ∧ IsNewT lo T (.agg #[v0, v1, v2, v3]) W
theorem IsTwo.steady (lo : Nat) (T : Tr) (u : Array Value) : (Yld.any (IsTwo lo T u)).stable := fun _ _ _ he ⟨g, v0, v1, v2, v3, u0, u1, u2, u3, h0, h1, h2, h3, h4⟩ => ⟨g, v0, v1, v2, v3, u0, u1, u2, u3, h0, h1, h2, h3.keep he, IsNewT.steady lo T _ _ _ he h4⟩
def IsCellV (lo : Nat) (T : Tr) (u : Array Value) (x : Value) (W : World) : Prop := ∃ y, x = .agg #[.int .i64 5, .int .i64 0, .string dot, y] ∧ IsTwo lo T u y W
theorem IsCellV.steady (lo : Nat) (T : Tr) (u : Array Value) : (Yld.any (IsCellV lo T u)).stable := fun _ _ _ he ⟨y, h1, h2⟩ => ⟨y, h1, IsTwo.steady lo T u _ _ _ he h2⟩

/-- What List hands back, its items and its tail being terms: the zero tree beyond the limits. -/
def ListPostZ (l : List Tr) (R : Tr) (w : World) (e : Ending) (w' : World) : Prop :=
  Below w.heap.size w w' ∧ ∃ k n s a m c, e = .returned (.tuple #[.agg #[.int .i64 k, .int .i64 n, .string s, .slice a m c], .int .i64 (limE (listT l R))]) ∧ (isB (listT l R) = true → IsT w'.heap.size w' (listT l R) (.agg #[.int .i64 k, .int .i64 n, .string s, .slice a m c])) ∧
    (isB (listT l R) = false → (.agg #[.int .i64 k, .int .i64 n, .string s, .slice a m c] : Value) = .agg #[.int .i64 0, .int .i64 0, .string ⟨#[]⟩, .slice none 0 0])
/-- What List hands back, its items and its tail being terms. -/
def ListPost (l : List Tr) (R : Tr) (w : World) (e : Ending) (w' : World) : Prop :=
  Below w.heap.size w w' ∧ ∃ k n s a m c, e = .returned (.tuple #[.agg #[.int .i64 k, .int .i64 n, .string s, .slice a m c], .int .i64 (limE (listT l R))]) ∧ (isB (listT l R) = true → IsT w'.heap.size w' (listT l R) (.agg #[.int .i64 k, .int .i64 n, .string s, .slice a m c]))

set_option maxRecDepth 100000 in
set_option maxHeartbeats 4000000 in
theorem List_okZ (l : List Tr) (R : Tr) (a : Option Addr) (c : Nat) (v : Value) (w : World) (hl : IsL w.heap.size w l a) (hm : l.length ≤ maxLen) (hR : IsT w.heap.size w R v) (ht : togB l = true) (hb : isB R = true) :
    Calls Tryd.prog 53 #[.slice a l.length c, v] w (ListPostZ l R w) := by
  refine (callsIn_wide (n := 9)).1 ?_
  generalize hF : Fence.wide = F
  have hd : F.depth = none := by subst hF; rfl
  have hf : ∀ f, F.fn f := fun f => by subst hF; trivial
  have hro : F.round = none := by subst hF; rfl
  cases hTc : R with
  | node k n s ts =>
  subst hTc
  have hR' := hR
  obtain ⟨a', c', rfl, _⟩ := hR'.open
  clear hR'
  have htg := ht
  simp only [togB, Bool.and_eq_true, decide_eq_true_eq] at htg
  have hbl : ∀ t, t ∈ l → isB t = true := fun t h => List.all_eq_true.1 htg.1 t h
  have hll := length_le_sizeL l
  have hld : ∀ t, t ∈ l → t.deep ≤ 999999999 := fun t h => by have := (isB_size (hbl t h)).2; omega
  have HX := Lib.hid (And.intro hR (And.intro hl (And.intro hb (And.intro ht hbl))))
  clear hR hl hb hbl ht
  refine callsIn_of_wp_marks Tryd.func53 rfl (hf _) ?_ hro
  simp only [Tryd.ntmps53, List.size_toArray, List.length_cons, List.length_nil, Nat.reduceAdd, Nat.reduceSub, Array.replicate_succ, Array.replicate_zero, List.push_toArray, List.append_toArray, List.nil_append, List.cons_append]
  gi_wp2_with fail
  have hb0 : Box ((w.alloc (.cells #[.int .i64 k, .int .i64 n, .string s, .slice a' ts.length c'] 25)).alloc (.cells #[.int .i64 0, .int .i64 0, .string ⟨#[]⟩, .slice none 0 0] 25)) w.heap.size #[.int .i64 k, .int .i64 n, .string s, .slice a' ts.length c'] 25 := (Box.at rfl).alloc _
  have hb1 : Box ((w.alloc (.cells #[.int .i64 k, .int .i64 n, .string s, .slice a' ts.length c'] 25)).alloc (.cells #[.int .i64 0, .int .i64 0, .string ⟨#[]⟩, .slice none 0 0] 25)) (w.heap.size + 1) #[.int .i64 0, .int .i64 0, .string ⟨#[]⟩, .slice none 0 0] 25 := Box.at (by simp)
  have hB0 := below_a2 (Nat.le_refl w.heap.size) (.cells #[.int .i64 k, .int .i64 n, .string s, .slice a' ts.length c'] 25) (.cells #[.int .i64 0, .int .i64 0, .string ⟨#[]⟩, .slice none 0 0] 25)
  refine CallsIn.mono (callsIn_of_calls hF (checkAll_any l a c _ hm (HX.out.2.1.up hB0 hB0.size) hld)) ?_
  rintro e w1 ⟨rfl, B⟩
  rw [HX.out.2.2.2.1, show errI true = 0 from rfl]
  replace hb0 := hb0.keep B
  replace hb1 := hb1.keep B
  replace hB0 := hB0.trans (B.mono hB0.size)
  have q0 := hb0.cell 0
  have q1 := hb0.cell 1
  have q2 := hb0.cell 2
  have q3 := hb0.cell 3
  have l0 := hb0.lt
  have l1 := hb1.lt
  simp only [List.getElem?_toArray, List.getElem?_cons_succ, List.getElem?_cons_zero] at q0 q1 q2 q3
  clear B
  gi_wp2_with fail
  have hblk : Box (w1.alloc (.cells #[.int .i64 k, .int .i64 n, .string s, .slice a' ts.length c'] 25)) w1.heap.size #[.int .i64 k, .int .i64 n, .string s, .slice a' ts.length c'] 25 := Box.at rfl
  have hB1 := below_a1 (Nat.le_refl w1.heap.size) (.cells #[.int .i64 k, .int .i64 n, .string s, .slice a' ts.length c'] 25)
  have hB2 := hB0.trans (hB1.mono hB0.size)
  refine CallsIn.mono (callsIn_of_calls hF (checkEach_any [.node k n s ts] (some ⟨w1.heap.size, 0, none⟩) 1 _ (by unfold maxLen; simp) (IsL.cons (by simp) (hblk.cell 0) (hblk.cell 1) (hblk.cell 2) (hblk.cell 3) (HX.out.1.up hB2 hB2.size) IsL.nil) (by have := (isB_size HX.out.2.2.1).2; simp; omega))) ?_
  rintro e w2 ⟨rfl, B⟩
  rw [show [Tr.node k n s ts].all isB = true by simp [HX.out.2.2.1], show errI true = 0 from rfl]
  replace hb0 := (hb0.keep hB1).keep B
  replace hb1 := (hb1.keep hB1).keep B
  replace hB0 := hB2.trans (B.mono hB2.size)
  have hw2s : w.heap.size + 2 ≤ w2.heap.size := by have := hb1.lt; omega
  clear hblk hB1 hB2 q0 q1 q2 q3 l0 l1
  have q0 := hb0.cell 0
  have q1 := hb0.cell 1
  have q2 := hb0.cell 2
  have q3 := hb0.cell 3
  have l0 := hb0.lt
  have l1 := hb1.lt
  simp only [List.getElem?_toArray, List.getElem?_cons_succ, List.getElem?_cons_zero] at q0 q1 q2 q3
  clear B
  gi_wp2_with fail
  refine CallsIn.mono (callsIn_of_calls hF (copyTerm_any (.node k n s ts) _ _ (HX.out.1.up hB0 hB0.size) (by have := (isB_size HX.out.2.2.1).1; omega))) ?_
  rintro e w3 ⟨x, rfl, hP, B⟩
  obtain ⟨xk, xn, xs, xa, xm, xc, rfl⟩ := hP.form
  replace hb0 := hb0.keep B
  replace hb1 := hb1.keep B
  have hlo := hB0.size
  replace hB0 := hB0.trans (B.mono hB0.size)
  have hs3 := B.size
  have HW2 := Lib.hid hw2s
  have HP := Lib.hid hP
  clear B hP q0 q1 q2 q3 l0 l1
  have l0 := hb0.lt
  have l1 := hb1.lt
  gi_wp2_with fail
  refine CallsIn.mono (callsIn_of_calls hF (back_any a l.length c _)) ?_
  rintro e w' ⟨rfl, rfl⟩
  gi_wp2_with fail
  have hB4 : Below w.heap.size w ((w3.alloc (.cells #[.int .i64 xk, .int .i64 xn, .string xs, .slice xa xm xc] 25)).alloc (.cells #[.slice a l.length c] 22)) := hB0.trans (below_a2 hB0.size _ _)
  have hI0 : ListInv w w2.heap.size w3.heap.size (.node k n s ts) (n₀ := w.heap.size) (W₀ := w) [] ((w3.alloc (.cells #[.int .i64 xk, .int .i64 xn, .string xs, .slice xa xm xc] 25)).alloc (.cells #[.slice a l.length c] 22)) := by
    refine ⟨xk, xn, xs, xa, xm, xc, (Box.at rfl).alloc _, ?_, (hb1.alloc _).alloc _, hB4⟩
    refine IsP.map (fun b hb => ?_) _ _ (IsP.solid _ _ HP.out)
    obtain ⟨⟨h1, h2⟩, o, ho, hc⟩ := hb
    have e : ((w3.alloc (.cells #[.int .i64 xk, .int .i64 xn, .string xs, .slice xa xm xc] 25)).alloc (.cells #[.slice a l.length c] 22)).heap[b]? = w3.heap[b]? := (Below.heap_alloc _ _ b (by simp; omega)).trans (Below.heap_alloc w3 _ b h2)
    exact ⟨⟨⟨by omega, by simp; omega, by omega⟩, o, e.trans ho, hc⟩, e⟩
  have HB4 := Lib.hid hB4
  have HI0 := Lib.hid hI0
  clear hI0 hB4
  refine range_back hd hf hro (by omega) (w3.heap.size + 1) w.heap.size l a c w rfl (Box.at (by simp)) HB4.out HB4.out.size HX.out.2.1 (fun t h => by have := (isB_size (HX.out.2.2.2.2 t h)).1; omega) hm rfl (ListInv w w2.heap.size w3.heap.size (.node k n s ts)) (ListInv.own (by simp; omega)) HI0.out ?_
  apply Exists.intro
  apply And.intro
  · rintro r pre ⟨⟨d, T', v'⟩, hT', hTx⟩ W K hI hK
    cases T' with
    | node k' n' s' ts' =>
    obtain ⟨a2, c2, rfl, _⟩ := hT'.open
    simp only [Bk.encs]
    gi_wp2_with fail
    have hblk := World.alloc_heap_new W (.cells #[.int .i64 k', .int .i64 n', .string s', .slice a2 ts'.length c2] 25)
    have hKB : KB w.heap.size (w3.heap.size + 1) W (W.alloc (.cells #[.int .i64 k', .int .i64 n', .string s', .slice a2 ts'.length c2] 25)) :=
      ⟨below_a1 (by obtain ⟨_, _, _, _, _, _, _, _, _, h⟩ := hI; exact h.size) _, fun c t fr h => (Below.heap_alloc W _ _ (Array.getElem?_eq_some_iff.1 h).1).trans h⟩
    have hI' := (ListInv.own (B := w.heap.size) (Nat.le_refl _)).alloc (.cells #[.int .i64 k', .int .i64 n', .string s', .slice a2 ts'.length c2] 25) hI
    have hKF := (KeepsOthers.alloc W (.cells #[.int .i64 k', .int .i64 n', .string s', .slice a2 ts'.length c2] 25)).from
    replace hK := fun Bx W' => hK Bx W'
    dsimp only [Value.cells] at hK
    generalize W.alloc (.cells #[.int .i64 k', .int .i64 n', .string s', .slice a2 ts'.length c2] 25) = W' at *
    generalize W.heap.size = Bx at *
    replace hK := hK Bx W' (hKF _) hKB hI' hblk
    generalize Value.agg #[.int .i64 k', .int .i64 n', .string s', .slice a2 ts'.length c2] = v' at *
    exact hK
  refine ⟨?_, ?_⟩
  · rintro r pre ⟨⟨d, T', v'⟩, hT', hTx⟩ Bx W ⟨ok, on, os, oa, om, oc, h1, h2, h3, h4⟩ hx hpre
    cases T' with
    | node k' n' s' ts' =>
    obtain ⟨a2, c2, rfl, _⟩ := hT'.open
    dsimp only [Value.cells] at hx
    have hxB : Box W Bx #[.int .i64 k', .int .i64 n', .string s', .slice a2 ts'.length c2] 25 := hx
    have x0 := hxB.cell 0
    have x1 := hxB.cell 1
    have x2 := hxB.cell 2
    have x3 := hxB.cell 3
    have o0 := h1.cell 0
    have o1 := h1.cell 1
    have o2 := h1.cell 2
    have o3 := h1.cell 3
    have lx := hxB.lt
    have lo' := h1.lt
    simp only [List.getElem?_toArray, List.getElem?_cons_succ, List.getElem?_cons_zero] at x0 x1 x2 x3 o0 o1 o2 o3
    have HH := Lib.hid (And.intro h1 (And.intro h2 (And.intro h3 h4)))
    have HTx := Lib.hid (And.intro hT' hTx)
    clear h1 h2 h3 h4 hx hxB
    gi_wp2_with fail
    refine wpIn_region_mono_tail 5 [.det (.agg #[.int .i64 k', .int .i64 n', .string s', .slice a2 ts'.length c2]), .any (IsNewT W.heap.size (.node k' n' s' ts')), .det (.agg #[.int .i64 ok, .int .i64 on, .string os, .slice oa om oc]), .any (IsTwo W.heap.size (.node k' n' s' ts') #[.int .i64 ok, .int .i64 on, .string os, .slice oa om oc]), .any (IsCellV W.heap.size (.node k' n' s' ts') #[.int .i64 ok, .int .i64 on, .string os, .slice oa om oc])] hf hd (fun k f args w R h => CallsIn.inRound r (callsIn_of_calls hF h)) (by kernel_rfl) (by kernel_rfl) ?_ ?_
    · intro y hy
      simp only [List.mem_cons, List.not_mem_nil, or_false] at hy
      rcases hy with rfl | rfl | rfl | rfl | rfl <;> first | trivial | exact IsNewT.steady _ _ | exact IsTwo.steady _ _ _ | exact IsCellV.steady _ _ _
    simp only [List.take_succ_cons, List.take_zero, List.drop_succ_cons, List.drop_zero]
    refine wpM_step (fun K hK => ?_)
    go_simp
    apply And.intro
    · intro w' hC _
      have q1 := hC.old.1
      have hbs := hC.old.2.2
      clear hC
      go_simp
      exact Ext.refl _
    refine nextM_det (hK _ _ ?_)
    clear hK K
    refine wpM_step (fun K hK => ?_)
    go_simp
    apply And.intro
    · intro w' hC _
      go_simp
      refine ⟨Ext.refl _, (copyTerm_any (.node k' n' s' ts') _ w' (HTx.out.1.up (HH.out.2.2.2.trans (Below.mono hC HH.out.2.2.2.size)) (Nat.le_trans HH.out.2.2.2.size (Below.size hC))) HTx.out.2).mono ?_⟩
      rintro e w2' ⟨u, rfl, hu, hb⟩
      exact ⟨u, rfl, hb, Nat.le_trans (Below.size hC) hb.size, New.below hu (Below.refl _ _) (Below.size hC)⟩
    refine nextM_any (fun u => hK _ _ ?_)
    clear hK K
    refine wpM_step (fun K hK => ?_)
    go_simp
    apply And.intro
    · intro w' hC _
      have q1 := hC.old.1
      have hbs := hC.old.2.2
      clear hC
      go_simp
      exact Ext.refl _
    refine nextM_det (hK _ _ ?_)
    clear hK K
    refine wpM_step (fun K hK => ?_)
    go_simp
    apply And.intro
    · intro w' hC hd'
      have hu : IsNewT W.heap.size (.node k' n' s' ts') u w' := hd' ⟨1, .data⟩ (by simp) rfl u rfl
      obtain ⟨uk, un, us, ua, um, uc, rfl⟩ := hu.2.form
      go_simp
      exact ⟨below_a1 (Nat.le_refl _) _, w'.heap.size, _, _, _, _, _, _, _, _, rfl, rfl, Below.size hC, Box.at rfl, IsNewT.steady _ _ _ _ _ (below_a1 (Nat.le_refl _) _) hu⟩
    refine nextM_any (fun y => hK _ _ ?_)
    clear hK K
    refine wpM_step (fun K hK => ?_)
    go_simp
    apply And.intro
    · intro w' hC hd'
      have hy : IsTwo W.heap.size (.node k' n' s' ts') #[.int .i64 ok, .int .i64 on, .string os, .slice oa om oc] y w' := hd' ⟨3, .data⟩ (by simp) rfl y rfl
      obtain ⟨ya, ym, yc, rfl⟩ : ∃ ya ym yc, y = .slice ya ym yc := by
        obtain ⟨g, v0, v1, v2, v3, u0, u1, u2, u3, _, h, _⟩ := hy
        exact ⟨_, _, _, h⟩
      have HY := Lib.hid hy
      clear hy
      go_simp
      exact ⟨Ext.refl _, _, rfl, HY.out⟩
    refine nextM_any (fun z => hK _ _ ?_)
    clear hK K
    refine wpM_nil ?_
    intro w9 hC hE
    obtain ⟨y', rfl, g, v0, v1, v2, v3, u0, u1, u2, u3, e0, rfl, e2, e3, e4⟩ : IsCellV W.heap.size (.node k' n' s' ts') #[.int .i64 ok, .int .i64 on, .string os, .slice oa om oc] z w9 := hE 4 z rfl
    clear hE
    obtain ⟨h1, h2, h3, h4⟩ := HH.out
    have p1 := h1.keep hC
    have g0 := p1.frozen 0
    have g1 := p1.frozen 1
    have g2 := p1.frozen 2
    have g3 := p1.frozen 3
    have c0 := p1.cell 0
    have c1 := p1.cell 1
    have c2' := p1.cell 2
    have c3 := p1.cell 3
    have lp := p1.lt
    simp only [List.getElem?_toArray, List.getElem?_cons_succ, List.getElem?_cons_zero] at c0 c1 c2' c3
    have HC := Lib.hid hC
    simp only [Array.mk.injEq, List.cons.injEq, and_true] at e0
    obtain ⟨rfl, rfl, rfl, rfl⟩ := e0
    have hbC : Below w.heap.size W w9 := Below.mono hC h4.size
    have hszC := Below.size hC
    have hKB : KB w.heap.size (w3.heap.size + 1) W ((((w9.setCell ⟨w3.heap.size, 0, none⟩ (.int .i64 5)).setCell ⟨w3.heap.size, 1, none⟩ (.int .i64 0)).setCell ⟨w3.heap.size, 2, none⟩ (.string dot)).setCell ⟨w3.heap.size, 3, none⟩ (.slice (some ⟨g, 0, none⟩) 2 2)) := ⟨below_four hbC (by omega) _ _ _ _, fun c t fr h => by
      rw [heap_four (by omega)]
      exact (Below.block hC _ (Array.getElem?_eq_some_iff.1 h).1).trans h⟩
    have hKF : KeepsOthers W ((((w9.setCell ⟨w3.heap.size, 0, none⟩ (.int .i64 5)).setCell ⟨w3.heap.size, 1, none⟩ (.int .i64 0)).setCell ⟨w3.heap.size, 2, none⟩ (.string dot)).setCell ⟨w3.heap.size, 3, none⟩ (.slice (some ⟨g, 0, none⟩) 2 2)) := ((((KeepsOthers.of_below hC).trans (KeepsOthers.setCell _ _ _)).trans (KeepsOthers.setCell _ _ _)).trans (KeepsOthers.setCell _ _ _)).trans (KeepsOthers.setCell _ _ _)
    have hlW := h1.lt
    have hlo9 : w2.heap.size ≤ W.heap.size := by omega
    have hnew : ∀ b, (New W.heap.size w9 b ∧ ∃ o, w9.heap[b]? = some o ∧ o.isCells = true) → Sol w2.heap.size w3.heap.size ((((w9.setCell ⟨w3.heap.size, 0, none⟩ (.int .i64 5)).setCell ⟨w3.heap.size, 1, none⟩ (.int .i64 0)).setCell ⟨w3.heap.size, 2, none⟩ (.string dot)).setCell ⟨w3.heap.size, 3, none⟩ (.slice (some ⟨g, 0, none⟩) 2 2)) b ∧ ((((w9.setCell ⟨w3.heap.size, 0, none⟩ (.int .i64 5)).setCell ⟨w3.heap.size, 1, none⟩ (.int .i64 0)).setCell ⟨w3.heap.size, 2, none⟩ (.string dot)).setCell ⟨w3.heap.size, 3, none⟩ (.slice (some ⟨g, 0, none⟩) 2 2)).heap[b]? = w9.heap[b]? := fun b ⟨⟨b1, b2⟩, o, ho, hc⟩ => by
      have e : ((((w9.setCell ⟨w3.heap.size, 0, none⟩ (.int .i64 5)).setCell ⟨w3.heap.size, 1, none⟩ (.int .i64 0)).setCell ⟨w3.heap.size, 2, none⟩ (.string dot)).setCell ⟨w3.heap.size, 3, none⟩ (.slice (some ⟨g, 0, none⟩) 2 2)).heap[b]? = w9.heap[b]? := heap_four (by omega) _ _ _ _
      exact ⟨⟨⟨by omega, by simp; omega, by omega⟩, o, e.trans ho, hc⟩, e⟩
    have hold : ∀ b, Sol w2.heap.size w3.heap.size W b → Sol w2.heap.size w3.heap.size ((((w9.setCell ⟨w3.heap.size, 0, none⟩ (.int .i64 5)).setCell ⟨w3.heap.size, 1, none⟩ (.int .i64 0)).setCell ⟨w3.heap.size, 2, none⟩ (.string dot)).setCell ⟨w3.heap.size, 3, none⟩ (.slice (some ⟨g, 0, none⟩) 2 2)) b ∧ ((((w9.setCell ⟨w3.heap.size, 0, none⟩ (.int .i64 5)).setCell ⟨w3.heap.size, 1, none⟩ (.int .i64 0)).setCell ⟨w3.heap.size, 2, none⟩ (.string dot)).setCell ⟨w3.heap.size, 3, none⟩ (.slice (some ⟨g, 0, none⟩) 2 2)).heap[b]? = W.heap[b]? := fun b ⟨⟨b1, b2, b3⟩, o, ho, hc⟩ => by
      have e : ((((w9.setCell ⟨w3.heap.size, 0, none⟩ (.int .i64 5)).setCell ⟨w3.heap.size, 1, none⟩ (.int .i64 0)).setCell ⟨w3.heap.size, 2, none⟩ (.string dot)).setCell ⟨w3.heap.size, 3, none⟩ (.slice (some ⟨g, 0, none⟩) 2 2)).heap[b]? = W.heap[b]? := (heap_four b3 _ _ _ _).trans (Below.block hC b b2)
      exact ⟨⟨⟨b1, by simp; omega, b3⟩, o, e.trans ho, hc⟩, e⟩
    have hT1 := IsP.map hnew _ _ (IsP.solid _ _ e4.2)
    have hT2 := IsP.map hold _ _ h2
    have hgs := e3.lt
    have hgx : Sol w2.heap.size w3.heap.size ((((w9.setCell ⟨w3.heap.size, 0, none⟩ (.int .i64 5)).setCell ⟨w3.heap.size, 1, none⟩ (.int .i64 0)).setCell ⟨w3.heap.size, 2, none⟩ (.string dot)).setCell ⟨w3.heap.size, 3, none⟩ (.slice (some ⟨g, 0, none⟩) 2 2)) g := (hnew g ⟨⟨e2, hgs⟩, _, e3, rfl⟩).1
    have e3' : Box ((((w9.setCell ⟨w3.heap.size, 0, none⟩ (.int .i64 5)).setCell ⟨w3.heap.size, 1, none⟩ (.int .i64 0)).setCell ⟨w3.heap.size, 2, none⟩ (.string dot)).setCell ⟨w3.heap.size, 3, none⟩ (.slice (some ⟨g, 0, none⟩) 2 2)) g #[v0, v1, v2, v3, .int .i64 ok, .int .i64 on, .string os, .slice oa om oc] 25 := (heap_four (by omega) _ _ _ _).trans e3
    have hTn : IsP (Sol w2.heap.size w3.heap.size ((((w9.setCell ⟨w3.heap.size, 0, none⟩ (.int .i64 5)).setCell ⟨w3.heap.size, 1, none⟩ (.int .i64 0)).setCell ⟨w3.heap.size, 2, none⟩ (.string dot)).setCell ⟨w3.heap.size, 3, none⟩ (.slice (some ⟨g, 0, none⟩) 2 2))) ((((w9.setCell ⟨w3.heap.size, 0, none⟩ (.int .i64 5)).setCell ⟨w3.heap.size, 1, none⟩ (.int .i64 0)).setCell ⟨w3.heap.size, 2, none⟩ (.string dot)).setCell ⟨w3.heap.size, 3, none⟩ (.slice (some ⟨g, 0, none⟩) 2 2)) (listT ((pre ++ [(⟨(d, .node k' n' s' ts', _), hT', hTx⟩ : Bk w.heap.size w)]).map Bk.tr).reverse (.node k n s ts)) (.agg #[.int .i64 5, .int .i64 0, .string dot, .slice (some ⟨g, 0, none⟩) 2 2]) := by
      rw [List.map_append, List.reverse_append]
      refine IsP.mk (l := [.node k' n' s' ts', _]) (by unfold okI; omega) (by unfold okI; omega) (by decide) (Nat.le_refl _) (by unfold maxLen; simp) ?_
      unfold IsPL
      refine ⟨g, 0, v0, v1, v2, v3, rfl, hgx, e3'.cell 0, e3'.cell 1, e3'.cell 2, e3'.cell 3, hT1, ?_⟩
      unfold IsPL
      exact ⟨g, 4, _, _, _, _, rfl, hgx, e3'.cell 4, e3'.cell 5, e3'.cell 6, e3'.cell 7, hT2, IsPL.nil⟩
    have hI := ListInv.own (B := w.heap.size) (w := w) (lo := w2.heap.size) (ob := w3.heap.size) (R := .node k n s ts) (n₀ := w.heap.size) (W₀ := w) (Nat.le_refl _)
    have hI9 : ListInv w w2.heap.size w3.heap.size (.node k n s ts) (pre ++ [(⟨(d, .node k' n' s' ts', _), hT', hTx⟩ : Bk w.heap.size w)]) ((((w9.setCell ⟨w3.heap.size, 0, none⟩ (.int .i64 5)).setCell ⟨w3.heap.size, 1, none⟩ (.int .i64 0)).setCell ⟨w3.heap.size, 2, none⟩ (.string dot)).setCell ⟨w3.heap.size, 3, none⟩ (.slice (some ⟨g, 0, none⟩) 2 2)) :=
      ⟨5, 0, dot, some ⟨g, 0, none⟩, 2, 2, p1.four _ _ _ _, hTn, (((((h3.keep hC).other (by omega) 0 _).other (by omega) 1 _).other (by omega) 2 _).other (by omega) 3 _), below_four (h4.trans hbC) (by omega) _ _ _ _⟩
    have HF := Lib.hid (And.intro hKF (And.intro hKB hI9))
    clear hKF hKB hI9 hI hTn e3' hgx hT1 hT2 hold hnew e3 e4 h2 h3 hC
    gi_wp2_with fail
    exact ⟨HF.out.1.from _, HF.out.2.1, HF.out.2.2⟩
  · rintro D xs' W hDle hxs ⟨ok, on, os, oa, om, oc, h1, h2, h3, h4⟩ hK
    rw [hxs, List.reverse_reverse] at h2
    clear hxs
    have hq := IsP.toT (n₀ := W.heap.size) (fun _ h => h.1.2.1) _ _ h2
    have HQ := Lib.hid hq
    have hdp : (listT l (.node k n s ts)).deep ≤ 999999999 := by
      have := listT_deep (isB_size HX.out.2.2.1).2 l (fun t h => (isB_size (HX.out.2.2.2.2 t h)).2)
      omega
    obtain ⟨zk, zn, zs, za, zm, zc, hz⟩ : ∃ zk zn zs za zm zc, limV (listT l (.node k n s ts)) (.agg #[.int .i64 ok, .int .i64 on, .string os, .slice oa om oc]) = .agg #[.int .i64 zk, .int .i64 zn, .string zs, .slice za zm zc] := by
      unfold limV
      split
      · exact ⟨_, _, _, _, _, _, rfl⟩
      · exact ⟨_, _, _, _, _, _, rfl⟩
    have HZ := Lib.hid hz
    have q0 := h1.cell 0
    have q1 := h1.cell 1
    have q2 := h1.cell 2
    have q3 := h1.cell 3
    have l8 := h1.lt
    simp only [List.getElem?_toArray, List.getElem?_cons_succ, List.getElem?_cons_zero] at q0 q1 q2 q3
    have H2 := Lib.hid h2
    clear h2 hq hz h1
    gi_wp2_with fail
    refine CallsIn.mono (callsIn_of_calls hF (limited_any _ _ _ HQ.out hdp)) ?_
    rintro e W1 ⟨rfl, B⟩
    rw [HZ.out]
    have h5 := h3.keep B
    have hB6 := h4.trans (B.mono h4.size)
    have hKD : W1.heap[D]? = some (.deferred (some [])) := (B.block D (Array.getElem?_eq_some_iff.1 hK).1).trans hK
    have hQ1 := HQ.out.up B B.size
    have u0 := h5.cell 0
    have u1 := h5.cell 1
    have u2 := h5.cell 2
    have u3 := h5.cell 3
    have g0 := h5.frozen 0
    have g1 := h5.frozen 1
    have g2 := h5.frozen 2
    have g3 := h5.frozen 3
    have l5 := h5.lt
    simp only [List.getElem?_toArray, List.getElem?_cons_succ, List.getElem?_cons_zero] at u0 u1 u2 u3
    have HQ1 := Lib.hid hQ1
    have HB6 := Lib.hid hB6
    have HBS := Lib.hid B
    have HK := Lib.hid hK
    clear B h3 h4 hK hQ1 hB6 q0 q1 q2 q3
    gi_wp2_with fail
    have h2w := HW2.out
    have hKF := ((((KeepsOthers.setCell W1 ⟨w.heap.size + 1, 0, none⟩ (.int .i64 zk)).trans (KeepsOthers.setCell _ ⟨w.heap.size + 1, 1, none⟩ (.int .i64 zn))).trans (KeepsOthers.setCell _ ⟨w.heap.size + 1, 2, none⟩ (.string zs))).trans (KeepsOthers.setCell _ ⟨w.heap.size + 1, 3, none⟩ (.slice za zm zc))).same D _ hKD rfl
    refine ⟨by simp, .inl ⟨_, _, rfl, run_takeDeferred hKF, ?_⟩⟩
    have hDn := h5.ne_deferred hKD
    have z := Box.put (h5.four (.int .i64 zk) (.int .i64 zn) (.string zs) (.slice za zm zc)) hDn (.deferred none)
    have zB := (below_four HB6.out (by omega) (.int .i64 zk) (.int .i64 zn) (.string zs) (.slice za zm zc) (B := w.heap.size + 1)).trans (belowK_b (w := w) (Nat.le_refl _) _ D _ (.deferred none) (by simp at hDle; omega) hKF rfl rfl)
    have zH : ∀ b, Sol w2.heap.size w3.heap.size W b → b < (World.putObj ((((W1.setCell ⟨w.heap.size + 1, 0, none⟩ (.int .i64 zk)).setCell ⟨w.heap.size + 1, 1, none⟩ (.int .i64 zn)).setCell ⟨w.heap.size + 1, 2, none⟩ (.string zs)).setCell ⟨w.heap.size + 1, 3, none⟩ (.slice za zm zc)) D (.deferred none)).heap.size ∧ (World.putObj ((((W1.setCell ⟨w.heap.size + 1, 0, none⟩ (.int .i64 zk)).setCell ⟨w.heap.size + 1, 1, none⟩ (.int .i64 zn)).setCell ⟨w.heap.size + 1, 2, none⟩ (.string zs)).setCell ⟨w.heap.size + 1, 3, none⟩ (.slice za zm zc)) D (.deferred none)).heap[b]? = W.heap[b]? := fun b ⟨⟨b1, b2, b3⟩, o, ho, hc⟩ => by
      have hbD : b ≠ D := fun e => by subst e; rw [HK.out] at ho; cases ho; cases hc
      refine ⟨by have := HBS.out.size; simp; omega, ?_⟩
      rw [World.putObj_heap_other hbD, heap_four (by omega)]
      exact HBS.out.block b b2
    have zT := IsP.toT (n₀ := (World.putObj ((((W1.setCell ⟨w.heap.size + 1, 0, none⟩ (.int .i64 zk)).setCell ⟨w.heap.size + 1, 1, none⟩ (.int .i64 zn)).setCell ⟨w.heap.size + 1, 2, none⟩ (.string zs)).setCell ⟨w.heap.size + 1, 3, none⟩ (.slice za zm zc)) D (.deferred none)).heap.size) (fun _ h => h) _ _ (IsP.map (q := fun b => b < (World.putObj ((((W1.setCell ⟨w.heap.size + 1, 0, none⟩ (.int .i64 zk)).setCell ⟨w.heap.size + 1, 1, none⟩ (.int .i64 zn)).setCell ⟨w.heap.size + 1, 2, none⟩ (.string zs)).setCell ⟨w.heap.size + 1, 3, none⟩ (.slice za zm zc)) D (.deferred none)).heap.size) zH _ _ H2.out)
    have y0 := z.cell 0
    have y1 := z.cell 1
    have y2 := z.cell 2
    have y3 := z.cell 3
    clear zH z hKF
    generalize World.putObj _ D (.deferred none) = FW at *
    refine ⟨.tuple #[.agg #[.int .i64 zk, .int .i64 zn, .string zs, .slice za zm zc], .int .i64 (limE (listT l (.node k n s ts)))], ?_, zB, zk, zn, zs, za, zm, zc, rfl, fun hy => ?_, fun hy => ?_⟩
    · simp at y0 y1 y2 y3
      simp [results, Tryd.results53, go_sem, y0, y1, y2, y3]
    · have := HZ.out
      rw [limV, if_pos hy] at this
      rw [← this]
      exact zT
    · have := HZ.out
      rw [limV, if_neg (by rw [hy]; simp)] at this
      exact this.symm
theorem List_ok (l : List Tr) (R : Tr) (a : Option Addr) (c : Nat) (v : Value) (w : World) (hl : IsL w.heap.size w l a) (hm : l.length ≤ maxLen) (hR : IsT w.heap.size w R v) (ht : togB l = true) (hb : isB R = true) :
    Calls Tryd.prog 53 #[.slice a l.length c, v] w (ListPost l R w) :=
  (List_okZ l R a c v w hl hm hR ht hb).mono fun _ _ ⟨hB, k, n, s, a, m, c, e, h, _⟩ => ⟨hB, k, n, s, a, m, c, e, h⟩
end Go.Proofs.YtdigiaigbcfccaaDoor
