/- Lists in terms: whether a term is a list cell; what lies within the limits; the items of a list, and its tail. -/
import Derived.Test.YtckoecmdaefoiaaDoorInst
namespace Go.Proofs.YtckoecmdaefoiaaDoor
open Go.RowKit Go

def dot : ByteArray := ⟨#[46]⟩
/-- A node is a list cell. -/
def cellB (k : Int) (s : ByteArray) (len : Nat) : Bool := decide (k = 5) && decide (s.toList = [46]) && decide (len = 2)
def Tr.cell : Tr → Bool
  | .node k _ s l => cellB k s l.length
def cellT (a b : Tr) : Tr := .node 5 0 dot [a, b]
/-- The list of items with a tail. -/
def listT (l : List Tr) (r : Tr) : Tr := l.foldr cellT r
theorem dot_list : dot.toList = [46] := by rw [bytes_toList]; rfl
theorem dot_of {s : ByteArray} (h : s.toList = [46]) : s = dot := by
  rw [bytes_toList] at h
  cases s with
  | mk d => exact congrArg ByteArray.mk (Array.ext' h)
theorem cellT_cell (a b : Tr) : (cellT a b).cell = true := by simp [cellT, Tr.cell, cellB, dot_list]
theorem listT_cons (a : Tr) (l : List Tr) (r : Tr) : listT (a :: l) r = cellT a (listT l r) := rfl
theorem listT_snoc (l : List Tr) (a r : Tr) : listT (l ++ [a]) r = listT l (cellT a r) := by simp [listT]
/-- A tree is a list in one way alone. -/
theorem listT_inj : ∀ (l l' : List Tr) {r r' : Tr}, r.cell = false → r'.cell = false → listT l r = listT l' r' → l = l' ∧ r = r'
  | [], [], _, _, _, _, h => ⟨rfl, h⟩
  | [], a :: l', r, r', h1, _, h => by
    rw [listT_cons] at h
    rw [show listT [] r = r from rfl] at h
    rw [h, cellT_cell] at h1
    cases h1
  | a :: l, [], r, r', _, h2, h => by
    rw [listT_cons] at h
    rw [show listT [] r' = r' from rfl] at h
    rw [← h, cellT_cell] at h2
    cases h2
  | a :: l, a' :: l', r, r', h1, h2, h => by
    rw [listT_cons, listT_cons] at h
    simp only [cellT, Tr.node.injEq, List.cons.injEq, and_true, true_and] at h
    obtain ⟨rfl, h⟩ := h
    obtain ⟨rfl, rfl⟩ := listT_inj l l' h1 h2 h
    exact ⟨rfl, rfl⟩
/-- A good list cell is a cell's tree. -/
theorem good_cell {k n : Int} {s : ByteArray} {l : List Tr} (h : (Tr.node k n s l).good = true) (hc : cellB k s l.length = true) : ∃ a b, l = [a, b] ∧ Tr.node k n s l = cellT a b ∧ a.good = true ∧ b.good = true := by
  simp only [cellB, Bool.and_eq_true, decide_eq_true_eq] at hc
  obtain ⟨⟨rfl, hs⟩, h2⟩ := hc
  obtain rfl := dot_of hs
  obtain ⟨a, b, rfl⟩ : ∃ a b, l = [a, b] := by
    rcases l with _ | ⟨a, _ | ⟨b, _ | ⟨c, l⟩⟩⟩ <;> simp at h2
    exact ⟨a, b, rfl⟩
  simp only [Tr.good, nodeB, goodL, Bool.and_eq_true, List.length_cons, List.length_nil] at h
  have hn : n = 0 := by
    have := h.1
    simp at this
    omega
  subst hn
  exact ⟨a, b, rfl, rfl, by simpa using h.2.1, by simpa using h.2.2⟩

set_option maxHeartbeats 1000000 in
theorem isCell_any (k n : Int) (s : ByteArray) (len : Nat) (a : Option Addr) (c : Nat) (w : World) (hm : len ≤ maxLen) :
    Calls Tryd.prog 113 #[.agg #[.int .i64 k, .int .i64 n, .string s, .slice a len c]] w fun e w' => e = .returned (.bool (cellB k s len)) ∧ Below w.heap.size w w' := by
  have hm' : len ≤ 9223372036854775807 := by unfold maxLen at hm; omega
  go_enter Tryd.func113, Tryd.ntmps113
  go_wp2_with fail
  all_goals
    go_ret
    refine ⟨retB ?_, below_box1 _ _⟩
    rw [Bool.eq_iff_iff]
    simp [cellB, *]
    try omega
set_option maxHeartbeats 1000000 in
theorem refCell_any (k n : Int) (s : ByteArray) (len : Nat) (a : Option Addr) (c : Nat) (w : World) (hm : len ≤ maxLen) :
    Calls Tryd.prog 68 #[.agg #[.int .i64 k, .int .i64 n, .string s, .slice a len c]] w fun e w' => e = .returned (.bool (cellB k s len)) ∧ Below w.heap.size w w' := by
  have hm' : len ≤ 9223372036854775807 := by unfold maxLen at hm; omega
  go_enter Tryd.func68, Tryd.ntmps68
  go_wp2_with fail
  all_goals
    go_ret
    refine ⟨retB ?_, below_box1 _ _⟩
    rw [Bool.eq_iff_iff]
    simp [cellB, *]
    try omega
def limV (T : Tr) (v : Value) : Value := if isB T then v else .agg #[.int .i64 0, .int .i64 0, .string ⟨#[]⟩, .slice none 0 0]
def limE (T : Tr) : Int := if isB T then 0 else 2
def LimPost (T : Tr) (v : Value) (w : World) (e : Ending) (w' : World) : Prop := e = .returned (.tuple #[limV T v, .int .i64 (limE T)]) ∧ Below w.heap.size w w'
set_option maxRecDepth 100000 in
set_option maxHeartbeats 1000000 in
theorem limited_any (T : Tr) (v : Value) (w : World) (hT : IsT w.heap.size w T v) (hdp : T.deep ≤ 999999999) :
    Calls Tryd.prog 89 #[v] w (LimPost T v w) := by
  cases hTc : T with
  | node k n s ts =>
  subst hTc
  have hT' := hT
  obtain ⟨a', c', rfl, _⟩ := hT'.open
  clear hT'
  have HT := Lib.hid hT
  clear hT
  go_enter Tryd.func89, Tryd.ntmps89
  go_wp2_with fail
  have hblk : Box (((w.alloc (.cells #[.int .i64 k, .int .i64 n, .string s, .slice a' ts.length c'] 25)).alloc (.cells #[.int .i64 0, .int .i64 0, .string ⟨#[]⟩, .slice none 0 0] 25)).alloc (.cells #[.int .i64 k, .int .i64 n, .string s, .slice a' ts.length c'] 25)) (w.heap.size + 1 + 1) #[.int .i64 k, .int .i64 n, .string s, .slice a' ts.length c'] 25 := Box.at (by simp)
  have hb0 : Box (((w.alloc (.cells #[.int .i64 k, .int .i64 n, .string s, .slice a' ts.length c'] 25)).alloc (.cells #[.int .i64 0, .int .i64 0, .string ⟨#[]⟩, .slice none 0 0] 25)).alloc (.cells #[.int .i64 k, .int .i64 n, .string s, .slice a' ts.length c'] 25)) w.heap.size #[.int .i64 k, .int .i64 n, .string s, .slice a' ts.length c'] 25 := ((Box.at rfl).alloc _).alloc _
  have hb1 : Box (((w.alloc (.cells #[.int .i64 k, .int .i64 n, .string s, .slice a' ts.length c'] 25)).alloc (.cells #[.int .i64 0, .int .i64 0, .string ⟨#[]⟩, .slice none 0 0] 25)).alloc (.cells #[.int .i64 k, .int .i64 n, .string s, .slice a' ts.length c'] 25)) (w.heap.size + 1) #[.int .i64 0, .int .i64 0, .string ⟨#[]⟩, .slice none 0 0] 25 := (Box.at (by simp)).alloc _
  have hB0 := below_a3 (Nat.le_refl w.heap.size) (.cells #[.int .i64 k, .int .i64 n, .string s, .slice a' ts.length c'] 25) (.cells #[.int .i64 0, .int .i64 0, .string ⟨#[]⟩, .slice none 0 0] 25) (.cells #[.int .i64 k, .int .i64 n, .string s, .slice a' ts.length c'] 25)
  refine (checkEach_any [.node k n s ts] (some ⟨w.heap.size + 1 + 1, 0, none⟩) 1 _ (by unfold maxLen; simp) ?_ (by simpa using hdp)).mono ?_
  · exact IsL.cons (by simp) (hblk.cell 0) (hblk.cell 1) (hblk.cell 2) (hblk.cell 3) (HT.out.up hB0 hB0.size) IsL.nil
  rintro e w1 ⟨rfl, hB1⟩
  have p0 := Box.keep hB1 hb0
  have p1 := Box.keep hB1 hb1
  have hB2 := hB0.trans (hB1.mono hB0.size)
  have l0 := p0.lt
  have l1 := p1.lt
  clear hB1 hblk hb0 hb1 hB0
  generalize hEQ : [Tr.node k n s ts].all isB = bT
  have hbT : Hid (bT = isB (.node k n s ts)) := by rw [Hid, ← hEQ]; simp
  clear hEQ
  have u0 := p1.cell 0
  have u1 := p1.cell 1
  have u2 := p1.cell 2
  have u3 := p1.cell 3
  have g0 := p1.frozen 0
  have g1 := p1.frozen 1
  have g2 := p1.frozen 2
  have g3 := p1.frozen 3
  have q0 := p0.cell 0
  have q1 := p0.cell 1
  have q2 := p0.cell 2
  have q3 := p0.cell 3
  simp only [List.getElem?_toArray, List.getElem?_cons_succ, List.getElem?_cons_zero] at u0 u1 u2 u3 q0 q1 q2 q3
  clear p0
  cases bT with
  | false =>
    rw [show errI false = 3 from rfl]
    go_wp2_with fail
    have z := p1.four (.int .i64 0) (.int .i64 0) (.string ⟨#[]⟩) (.slice none 0 0)
    have zB := below_four hB2 (by simp) (.int .i64 0) (.int .i64 0) (.string ⟨#[]⟩) (.slice none 0 0) (B := w.heap.size + 1)
    have y0 := z.cell 0
    have y1 := z.cell 1
    have y2 := z.cell 2
    have y3 := z.cell 3
    clear z u0 u1 u2 u3 g0 g1 g2 g3 q0 q1 q2 q3
    generalize (((w1.setCell ⟨w.heap.size + 1, 0, none⟩ (.int .i64 0)).setCell ⟨w.heap.size + 1, 1, none⟩ (.int .i64 0)).setCell ⟨w.heap.size + 1, 2, none⟩ (.string ⟨#[]⟩)).setCell ⟨w.heap.size + 1, 3, none⟩ (.slice none 0 0) = FW at *
    simp at y0 y1 y2 y3
    exact bodyPost_ret (v := .tuple #[.agg #[.int .i64 0, .int .i64 0, .string ⟨#[]⟩, .slice none 0 0], .int .i64 2]) (by simp [results, Tryd.results89, go_sem, y0, y1, y2, y3]) rfl ⟨by unfold limV limE; rw [← hbT.out]; rfl, zB⟩
  | true =>
    rw [show errI true = 0 from rfl]
    go_wp2_with fail
    have z := p1.four (.int .i64 k) (.int .i64 n) (.string s) (.slice a' ts.length c')
    have zB := below_four hB2 (by simp) (.int .i64 k) (.int .i64 n) (.string s) (.slice a' ts.length c') (B := w.heap.size + 1)
    have y0 := z.cell 0
    have y1 := z.cell 1
    have y2 := z.cell 2
    have y3 := z.cell 3
    clear z u0 u1 u2 u3 g0 g1 g2 g3 q0 q1 q2 q3
    generalize (((w1.setCell ⟨w.heap.size + 1, 0, none⟩ (.int .i64 k)).setCell ⟨w.heap.size + 1, 1, none⟩ (.int .i64 n)).setCell ⟨w.heap.size + 1, 2, none⟩ (.string s)).setCell ⟨w.heap.size + 1, 3, none⟩ (.slice a' ts.length c') = FW at *
    simp at y0 y1 y2 y3
    exact bodyPost_ret (v := .tuple #[.agg #[.int .i64 k, .int .i64 n, .string s, .slice a' ts.length c'], .int .i64 0]) (by simp [results, Tryd.results89, go_sem, y0, y1, y2, y3]) rfl ⟨by unfold limV limE; rw [← hbT.out]; rfl, zB⟩

/-- How many elements a slice has. -/
def lenV : Value → Nat
  | .slice _ n _ => n
  | _ => 0
theorem row_lenV {W : World} {base : Nat} {e : TypeId} {size k : Nat} {v : Value} {xs : List Value} (h : W.ownsRow base e size v k xs) : lenV v = k := by
  rcases h.2 with ⟨rfl, h0⟩ | ⟨g, cap, cur, rfl, _⟩
  · exact h0.symm
  · rfl
/-- What Items hands back. -/
def ItemsPost (T : Tr) (w : World) (e : Ending) (w' : World) : Prop :=
  Below w.heap.size w w' ∧ (isB T = false → e = .returned (.tuple #[.slice none 0 0, .agg #[.int .i64 0, .int .i64 0, .string ⟨#[]⟩, .slice none 0 0], .int .i64 3])) ∧
  (isB T = true → ∃ l r a c v, T = listT l r ∧ r.cell = false ∧ e = .returned (.tuple #[.slice a l.length c, v, .int .i64 0]) ∧ l.length ≤ c ∧ c ≤ maxLen ∧ IsPL (New w.heap.size w') w' l a ∧ IsP (New w.heap.size w') w' r v)
/-- Between the rounds of Items: the items so far lie in a row of their own; the rest of the list in the box. -/
structure ItemsAt (T : Tr) (w : World) (lo : Nat) (l : List Tr) (xs : List Value) (k n : Int) (s : ByteArray) (ts : List Tr) (a : Option Addr) (c : Nat) (ov : Value) (wr : World) : Prop where
  eq : T = listT l (.node k n s ts)
  good : (Tr.node k n s ts).good = true
  own : wr.ownsRow lo 25 4 ov l.length xs
  len : xs.length = l.length * 4
  laid : LaidR (NewBut lo ov wr) wr xs l
  box : Box wr w.heap.size #[.int .i64 k, .int .i64 n, .string s, .slice a ts.length c] 25
  out : Box wr (w.heap.size + 1) #[.int .i64 0, .int .i64 0, .string ⟨#[]⟩, .slice none 0 0] 25
  tree : IsT w.heap.size w (.node k n s ts) (.agg #[.int .i64 k, .int .i64 n, .string s, .slice a ts.length c])
  below : Below w.heap.size w wr
  size : (Tr.node k n s ts).size + l.length ≤ T.size
  lo_lt : w.heap.size + 2 ≤ lo ∧ lo ≤ wr.heap.size
theorem ItemsAt.up {T : Tr} {w wr W : World} {lo : Nat} {l : List Tr} {xs : List Value} {k n : Int} {s : ByteArray} {ts : List Tr} {a : Option Addr} {c : Nat} {ov : Value} (h : ItemsAt T w lo l xs k n s ts a c ov wr) (B : Below wr.heap.size wr W) : ItemsAt T w lo l xs k n s ts a c ov W :=
  ⟨h.eq, h.good, h.own.kept (grown_b none B) (by rcases ov.ownBlock with _ | _ <;> simp), h.len, h.laid.map (fun b hb => ⟨⟨hb.1, Nat.lt_of_lt_of_le hb.2.1 B.size, hb.2.2⟩, B.block b hb.2.1⟩), h.box.keep B, h.out.keep B, h.tree, h.below.trans (B.mono h.below.size), h.size, h.lo_lt.1, Nat.le_trans h.lo_lt.2 B.size⟩
def ItemsInv (T : Tr) (w : World) (lo : Nat) (ov : Value) (wr : World) : Prop :=
  ∃ (l : List Tr) (xs : List Value) (k n : Int) (s : ByteArray) (ts : List Tr) (a : Option Addr) (c : Nat), ItemsAt T w lo l xs k n s ts a c ov wr
theorem grown_four (B : Nat) (w : World) (a0 a1 a2 a3 : Value) : w.grownBy ((((w.setCell ⟨B, 0, none⟩ a0).setCell ⟨B, 1, none⟩ a1).setCell ⟨B, 2, none⟩ a2).setCell ⟨B, 3, none⟩ a3) (some B) :=
  ⟨rfl, rfl, rfl, by simp, fun k _ hk => heap_four (fun e => hk (by rw [e])) a0 a1 a2 a3⟩

set_option maxRecDepth 100000 in
set_option maxHeartbeats 4000000 in
theorem Items_any (T : Tr) (v : Value) (w : World) (hT : IsT w.heap.size w T v) (hdp : T.deep ≤ 999999999) :
    Calls Tryd.prog 55 #[v] w (ItemsPost T w) := by
  cases hTc : T with
  | node k n s ts =>
  subst hTc
  have hT' := hT
  obtain ⟨a', c', rfl, _⟩ := hT'.open
  clear hT'
  have HT := Lib.hid hT
  clear hT
  go_enter Tryd.func55, Tryd.ntmps55
  go_wp2_with fail
  have hblk : Box (((w.alloc (.cells #[.int .i64 k, .int .i64 n, .string s, .slice a' ts.length c'] 25)).alloc (.cells #[.int .i64 0, .int .i64 0, .string ⟨#[]⟩, .slice none 0 0] 25)).alloc (.cells #[.int .i64 k, .int .i64 n, .string s, .slice a' ts.length c'] 25)) (w.heap.size + 1 + 1) #[.int .i64 k, .int .i64 n, .string s, .slice a' ts.length c'] 25 := Box.at (by simp)
  have hb0 : Box (((w.alloc (.cells #[.int .i64 k, .int .i64 n, .string s, .slice a' ts.length c'] 25)).alloc (.cells #[.int .i64 0, .int .i64 0, .string ⟨#[]⟩, .slice none 0 0] 25)).alloc (.cells #[.int .i64 k, .int .i64 n, .string s, .slice a' ts.length c'] 25)) w.heap.size #[.int .i64 k, .int .i64 n, .string s, .slice a' ts.length c'] 25 := ((Box.at rfl).alloc _).alloc _
  have hb1 : Box (((w.alloc (.cells #[.int .i64 k, .int .i64 n, .string s, .slice a' ts.length c'] 25)).alloc (.cells #[.int .i64 0, .int .i64 0, .string ⟨#[]⟩, .slice none 0 0] 25)).alloc (.cells #[.int .i64 k, .int .i64 n, .string s, .slice a' ts.length c'] 25)) (w.heap.size + 1) #[.int .i64 0, .int .i64 0, .string ⟨#[]⟩, .slice none 0 0] 25 := (Box.at (by simp)).alloc _
  have hB0 := below_a3 (Nat.le_refl w.heap.size) (.cells #[.int .i64 k, .int .i64 n, .string s, .slice a' ts.length c'] 25) (.cells #[.int .i64 0, .int .i64 0, .string ⟨#[]⟩, .slice none 0 0] 25) (.cells #[.int .i64 k, .int .i64 n, .string s, .slice a' ts.length c'] 25)
  refine (checkEach_any [.node k n s ts] (some ⟨w.heap.size + 1 + 1, 0, none⟩) 1 _ (by unfold maxLen; simp) ?_ (by simpa using hdp)).mono ?_
  · exact IsL.cons (by simp) (hblk.cell 0) (hblk.cell 1) (hblk.cell 2) (hblk.cell 3) (HT.out.up hB0 hB0.size) IsL.nil
  rintro e w1 ⟨rfl, hB1⟩
  have p0 := Box.keep hB1 hb0
  have p1 := Box.keep hB1 hb1
  have hB2 := hB0.trans (hB1.mono hB0.size)
  have l0 := p0.lt
  have l1 := p1.lt
  have hs1 : w.heap.size + 2 ≤ w1.heap.size := by have := hB1.size; simp at this; omega
  clear hB1 hblk hb0 hb1 hB0
  generalize hEQ : [Tr.node k n s ts].all isB = bT
  have hbT : Hid (bT = isB (.node k n s ts)) := by rw [Hid, ← hEQ]; simp
  clear hEQ
  cases bT with
  | false =>
    rw [show errI false = 3 from rfl]
    have u0 := p1.cell 0
    have u1 := p1.cell 1
    have u2 := p1.cell 2
    have u3 := p1.cell 3
    have g0 := p1.frozen 0
    have g1 := p1.frozen 1
    have g2 := p1.frozen 2
    have g3 := p1.frozen 3
    simp only [List.getElem?_toArray, List.getElem?_cons_succ, List.getElem?_cons_zero] at u0 u1 u2 u3
    clear p0
    go_wp2_with fail
    have z := p1.four (.int .i64 0) (.int .i64 0) (.string ⟨#[]⟩) (.slice none 0 0)
    have zB := below_four hB2 (by simp) (.int .i64 0) (.int .i64 0) (.string ⟨#[]⟩) (.slice none 0 0) (B := w.heap.size + 1)
    have y0 := z.cell 0
    have y1 := z.cell 1
    have y2 := z.cell 2
    have y3 := z.cell 3
    clear z u0 u1 u2 u3 g0 g1 g2 g3
    generalize (((w1.setCell ⟨w.heap.size + 1, 0, none⟩ (.int .i64 0)).setCell ⟨w.heap.size + 1, 1, none⟩ (.int .i64 0)).setCell ⟨w.heap.size + 1, 2, none⟩ (.string ⟨#[]⟩)).setCell ⟨w.heap.size + 1, 3, none⟩ (.slice none 0 0) = FW at *
    simp at y0 y1 y2 y3
    exact bodyPost_ret (v := .tuple #[.slice none 0 0, .agg #[.int .i64 0, .int .i64 0, .string ⟨#[]⟩, .slice none 0 0], .int .i64 3]) (by simp [results, Tryd.results55, go_sem, y0, y1, y2, y3]) rfl ⟨zB, fun _ => rfl, fun h => by rw [← hbT.out] at h; cases h⟩
  | true =>
    rw [show errI true = 0 from rfl]
    have hTb : isB (.node k n s ts) = true := hbT.out.symm
    have hz := isB_size hTb
    have hI0 : ItemsAt (.node k n s ts) w w1.heap.size [] [] k n s ts a' c' (.slice none 0 0) w1 := ⟨rfl, (isB_is hTb).1, World.ownsRow_nil _ _ _ _, rfl, LaidR.nil, p0, p1, HT.out, hB2, by simp, hs1, Nat.le_refl _⟩
    have HI0 := Lib.hid hI0
    have HTb := Lib.hid hTb
    clear hI0 hTb hbT p0 p1 hB2
    obtain ⟨i0, hi, hz0, hz1, hz2⟩ := info_parts infoTerm
    go_wp2_with fail
    go_loopw [6] (fun ov wr => ItemsInv (.node k n s ts) w w1.heap.size ov wr) (fun ov _ => (Tr.node k n s ts).size - lenV ov)
    case atStart => exact ⟨[], [], k, n, s, ts, a', c', HI0.out⟩
    case round =>
      obtain ⟨l, xs, k', n', s', ts', a2, c2, hA⟩ := hrel
      have HA := Lib.hid hA
      have q0 := hA.box.cell 0
      have q1 := hA.box.cell 1
      have q2 := hA.box.cell 2
      have q3 := hA.box.cell 3
      have hlt := hA.box.lt
      simp only [List.getElem?_toArray, List.getElem?_cons_succ, List.getElem?_cons_zero] at q0 q1 q2 q3
      obtain ⟨a3, c3, he, _, _, _, h4, h5, hL⟩ := hA.tree.open
      cases he
      have hm : ts'.length ≤ maxLen := Nat.le_trans h4 h5
      have hl' := row_lenV hA.own
      have HL := Lib.hid hL
      clear hA hL
      go_wp2_with fail
      refine (isCell_any k' n' s' ts'.length a2 c2 wr hm).mono ?_
      rintro e W1 ⟨rfl, B⟩
      have HB := Lib.hid (HA.out.up B)
      clear B q0 q1 q2 q3
      cases hc : cellB k' s' ts'.length with
      | false =>
        have q0 := HB.out.box.cell 0
        have q1 := HB.out.box.cell 1
        have q2 := HB.out.box.cell 2
        have q3 := HB.out.box.cell 3
        have hlt1 := HB.out.box.lt
        simp only [List.getElem?_toArray, List.getElem?_cons_succ, List.getElem?_cons_zero] at q0 q1 q2 q3
        have HC := Lib.hid hc
        clear hc
        go_wp2_with fail
        refine (copyTerm_any (.node k' n' s' ts') _ _ (HB.out.tree.up HB.out.below HB.out.below.size) (by have := HB.out.size; omega)).mono ?_
        rintro e W2 ⟨x, rfl, hP, B⟩
        obtain ⟨xk, xn, xs', xa, xm, xc, rfl⟩ := hP.form
        have hD := HB.out.up B
        have hout := hD.out
        have u0 := hout.cell 0
        have u1 := hout.cell 1
        have u2 := hout.cell 2
        have u3 := hout.cell 3
        have g0 := hout.frozen 0
        have g1 := hout.frozen 1
        have g2 := hout.frozen 2
        have g3 := hout.frozen 3
        have hlt2 := hout.lt
        simp only [List.getElem?_toArray, List.getElem?_cons_succ, List.getElem?_cons_zero] at u0 u1 u2 u3
        have HD := Lib.hid hD
        have HP := Lib.hid hP
        clear B hP hD q0 q1 q2 q3
        go_wp2_with fail
        have z := hout.four (.int .i64 xk) (.int .i64 xn) (.string xs') (.slice xa xm xc)
        have zB := below_four HD.out.below (by omega) (.int .i64 xk) (.int .i64 xn) (.string xs') (.slice xa xm xc) (B := w.heap.size + 1)
        have hlo := HD.out.lo_lt
        have hsz1 : w.heap.size + 2 ≤ W1.heap.size := by have := HB.out.lo_lt; omega
        obtain ⟨ra, rc, hre, hr1, hr2, hr3⟩ := LaidR.done HD.out.laid HD.out.own
        have hr4 : IsPL (New w1.heap.size ((((W2.setCell ⟨w.heap.size + 1, 0, none⟩ (.int .i64 xk)).setCell ⟨w.heap.size + 1, 1, none⟩ (.int .i64 xn)).setCell ⟨w.heap.size + 1, 2, none⟩ (.string xs')).setCell ⟨w.heap.size + 1, 3, none⟩ (.slice xa xm xc))) ((((W2.setCell ⟨w.heap.size + 1, 0, none⟩ (.int .i64 xk)).setCell ⟨w.heap.size + 1, 1, none⟩ (.int .i64 xn)).setCell ⟨w.heap.size + 1, 2, none⟩ (.string xs')).setCell ⟨w.heap.size + 1, 3, none⟩ (.slice xa xm xc)) l ra :=
          IsPL.map (fun b hb => ⟨⟨hb.1, by simpa using hb.2⟩, heap_four (by have := hb.1; omega) _ _ _ _⟩) l ra hr3
        have hr5 := HP.out.four (B := w.heap.size + 1) (lo' := w.heap.size) (by omega) (by omega) (.int .i64 xk) (.int .i64 xn) (.string xs') (.slice xa xm xc)
        have y0 := z.cell 0
        have y1 := z.cell 1
        have y2 := z.cell 2
        have y3 := z.cell 3
        clear z u0 u1 u2 u3 g0 g1 g2 g3
        generalize (((W2.setCell ⟨w.heap.size + 1, 0, none⟩ (.int .i64 xk)).setCell ⟨w.heap.size + 1, 1, none⟩ (.int .i64 xn)).setCell ⟨w.heap.size + 1, 2, none⟩ (.string xs')).setCell ⟨w.heap.size + 1, 3, none⟩ (.slice xa xm xc) = FW at *
        simp at y0 y1 y2 y3
        subst hre
        exact bodyPost_ret (v := .tuple #[.slice ra l.length rc, .agg #[.int .i64 xk, .int .i64 xn, .string xs', .slice xa xm xc], .int .i64 0]) (by simp [results, Tryd.results55, go_sem, y0, y1, y2, y3]) rfl
          ⟨zB, fun h => (by rw [HTb.out] at h; cases h), fun _ => ⟨l, _, ra, rc, _, HD.out.eq, HC.out, rfl, hr1, hr2, IsPL.map (fun b hb => ⟨⟨by have := hb.1; omega, hb.2⟩, rfl⟩) l ra hr4, hr5⟩⟩
      | true =>
        obtain ⟨x, y, rfl, hxy, hgx, hgy⟩ := good_cell HA.out.good hc
        obtain ⟨b, off, rfl, hb⟩ := HL.out.addr (by simp)
        obtain ⟨tk, tn, tss, tl, ta, tc, te, d0, d1, d2, d3, ht⟩ := HL.out.node' hb HB.out.below 0 (by simp)
        have q3 := HB.out.box.cell 3
        have hlt1 := HB.out.box.lt
        have hbl : b < W1.heap.size := by omega
        simp only [List.getElem?_toArray, List.getElem?_cons_succ, List.getElem?_cons_zero] at q3
        have hsx : (cellT x y).size = 1 + (x.size + (y.size + 0)) := rfl
        have HS := Lib.hid hxy
        have HT0 := Lib.hid te
        clear te hxy hc
        simp only [List.length_cons, List.length_nil, Nat.zero_add] at q3
        simp only [Nat.zero_mul, Nat.add_zero] at d0 d1 d2 d3
        go_wp2_with fail
        refine (copyTerm_any x _ _ (ht.up HB.out.below HB.out.below.size) (by have := HB.out.size; have := congrArg Tr.size HS.out; omega)).mono ?_
        rintro e W2 ⟨vx, rfl, hP, B⟩
        obtain ⟨xk, xn, xs', xa, xm, xc, rfl⟩ := hP.form
        have hB1u : ∀ j, u6.ownBlock = some j → j < W1.heap.size := fun j hj => (HB.out.own.lt j hj).2
        have HD := Lib.hid (HB.out.up B)
        have HP := Lib.hid hP
        have hown := HD.out.own
        have hlo := HD.out.lo_lt
        have hll : l.length ≤ 4000 := by have := HD.out.size; omega
        have hs12 := B.size
        clear B hP ht d0 d1 d2 d3 q3
        go_wp2_with (at_builtin; refine wpList_append_where rfl _ _ 22 rfl w1.heap.size 25 i0 _ 4 56 Tryd.underlying22 hi hz0 hz1 hz2 rfl (by decide) _ _ _ rfl (World.ownsRow.alloc hown _) ⟨W2.heap.size, 0, none⟩ 1 1 [.int .i64 xk, .int .i64 xn, .string xs', .slice xa xm xc] rfl rfl (cells_of_box (Box.at rfl)) (fun u hu => by simp only [List.mem_cons, List.not_mem_nil, or_false] at hu; rcases hu with rfl | rfl | rfl | rfl <;> rfl) (by unfold maxLen; omega) (by omega) (by simp; omega) ?_)
        intro v2 w3 hown3 hgrow hwh
        have hnb : ∀ j, u6.ownBlock = some j → w1.heap.size ≤ j ∧ j < W2.heap.size := fun j hj => hown.lt j hj
        have h3s := hgrow.size
        simp only [World.size_alloc] at h3s
        have hBw : Below w.heap.size w w3 := (HD.out.below.alloc HD.out.below.size _).trans (grown_below' hgrow (by have := HD.out.below.size; simp; omega) (fun g hg => by have := (hnb g hg).1; omega))
        have hbx3 : Box w3 w.heap.size #[.int .i64 k', .int .i64 n', .string s', .slice (some ⟨b, off, none⟩) [x, y].length c2] 25 := (hgrow.block _ (HD.out.box.alloc _).lt (fun e => by have := (hnb _ e.symm).1; omega)).trans (HD.out.box.alloc _)
        have hou3 : Box w3 (w.heap.size + 1) #[.int .i64 0, .int .i64 0, .string ⟨#[]⟩, .slice none 0 0] 25 := (hgrow.block _ (HD.out.out.alloc _).lt (fun e => by have := (hnb _ e.symm).1; omega)).trans (HD.out.out.alloc _)
        obtain ⟨yk, yn, ys', yl, ya, yc, ye, d0, d1, d2, d3, hty⟩ := HL.out.node' hb hBw 1 (by simp)
        simp only [List.getElem_cons_succ, List.getElem_cons_zero] at ye hty
        subst ye
        have hv2 : ∀ j, v2.ownBlock = some j → w1.heap.size ≤ j := fun j hj => (hown3.lt j hj).1
        have hlo1 := HB.out.lo_lt.2
        have hw2 : ∀ i, v2.ownBlock = some i → u6.ownBlock = some i ∨ W2.heap.size ≤ i := fun i h => (hwh i h).imp id (fun h => by first | exact h | omega | (rw [World.size_alloc] at h; omega))
        have hm1 : ∀ i, NewBut w1.heap.size u6 W2 i → NewBut w1.heap.size v2 ((((w3.setCell ⟨w.heap.size, 0, none⟩ (.int .i64 yk)).setCell ⟨w.heap.size, 1, none⟩ (.int .i64 yn)).setCell ⟨w.heap.size, 2, none⟩ (.string ys')).setCell ⟨w.heap.size, 3, none⟩ (.slice ya yl.length yc)) i ∧ ((((w3.setCell ⟨w.heap.size, 0, none⟩ (.int .i64 yk)).setCell ⟨w.heap.size, 1, none⟩ (.int .i64 yn)).setCell ⟨w.heap.size, 2, none⟩ (.string ys')).setCell ⟨w.heap.size, 3, none⟩ (.slice ya yl.length yc)).heap[i]? = W2.heap[i]? := fun i ⟨h1, h2, h3⟩ => by
          refine ⟨⟨h1, by simp; omega, fun e => ?_⟩, ?_⟩
          · rcases hw2 i e.symm with h | h
            · exact h3 h.symm
            · omega
          · rw [heap_four (by omega), hgrow.block i (by simp; omega) h3]
            exact Below.heap_alloc W2 _ i h2
        have hm2 : ∀ i, New W1.heap.size W2 i → NewBut w1.heap.size v2 ((((w3.setCell ⟨w.heap.size, 0, none⟩ (.int .i64 yk)).setCell ⟨w.heap.size, 1, none⟩ (.int .i64 yn)).setCell ⟨w.heap.size, 2, none⟩ (.string ys')).setCell ⟨w.heap.size, 3, none⟩ (.slice ya yl.length yc)) i ∧ ((((w3.setCell ⟨w.heap.size, 0, none⟩ (.int .i64 yk)).setCell ⟨w.heap.size, 1, none⟩ (.int .i64 yn)).setCell ⟨w.heap.size, 2, none⟩ (.string ys')).setCell ⟨w.heap.size, 3, none⟩ (.slice ya yl.length yc)).heap[i]? = W2.heap[i]? := fun i ⟨h1, h2⟩ => hm1 i ⟨by omega, h2, fun e => by have := hB1u i e.symm; omega⟩
        have hI : ItemsAt (.node k n s ts) w w1.heap.size (l ++ [x]) (xs ++ [.int .i64 xk, .int .i64 xn, .string xs', .slice xa xm xc]) yk yn ys' yl ya yc v2 ((((w3.setCell ⟨w.heap.size, 0, none⟩ (.int .i64 yk)).setCell ⟨w.heap.size, 1, none⟩ (.int .i64 yn)).setCell ⟨w.heap.size, 2, none⟩ (.string ys')).setCell ⟨w.heap.size, 3, none⟩ (.slice ya yl.length yc)) := by
          refine ⟨?_, hgy, ?_, ?_, ?_, hbx3.four _ _ _ _, ?_, hty, below_four hBw (Nat.le_refl _) _ _ _ _, ?_, hs1, ?_⟩
          · rw [listT_snoc, ← HS.out]; exact HD.out.eq
          · rw [len_snoc]
            exact hown3.kept (grown_four w.heap.size w3 _ _ _ _) (.inr (fun e => by have := hv2 _ e; omega))
          · have := HD.out.len
            simp only [List.length_append, List.length_cons, List.length_nil]
            omega
          · exact LaidR.snoc (LaidR.map HD.out.laid hm1) HD.out.len (IsP.map hm2 _ _ HP.out)
          · exact (((hou3.other (by omega) 0 _).other (by omega) 1 _).other (by omega) 2 _).other (by omega) 3 _
          · have := HD.out.size
            have := congrArg Tr.size HS.out
            simp only [List.length_append, List.length_cons, List.length_nil]
            omega
          · simp; omega
        have HI := Lib.hid hI
        have q0 := hbx3.cell 0
        have q1 := hbx3.cell 1
        have q2 := hbx3.cell 2
        have q3 := hbx3.cell 3
        have g0 := hbx3.frozen 0
        have g1 := hbx3.frozen 1
        have g2 := hbx3.frozen 2
        have g3 := hbx3.frozen 3
        have hlt3 := hbx3.lt
        have hbl3 : b < w3.heap.size := by omega
        have hsl : l.length + 1 ≤ (Tr.node k n s ts).size := by have := HD.out.size; have := congrArg Tr.size HS.out; omega
        have hlv2 := row_lenV hown3
        simp only [List.getElem?_toArray, List.getElem?_cons_succ, List.getElem?_cons_zero, List.length_cons, List.length_nil, Nat.zero_add] at q0 q1 q2 q3
        simp only [Nat.one_mul] at d0 d1 d2 d3
        clear hI hbx3 hou3 hown3 hgrow hwh hnb hBw hty hv2 hown
        go_wp2_with fail
        go_roundw
        case rel => exact ⟨_, _, _, _, _, _, _, _, HI.out⟩
        case measure => rw [hl', hlv2]; omega
end Go.Proofs.YtckoecmdaefoiaaDoor
