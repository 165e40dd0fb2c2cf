import Derived.Lib.AppendStr
import Derived.Test.YtckoecmdaefoiaaDoorEqL
namespace Go.Proofs.YtckoecmdaefoiaaDoor
open Go.RowKit Go

theorem infoU8 : (Tryd.prog.info? 5).map (fun i => (i.zero, i.size, i.bytes)) = some (some (.int .u8 0), 1, 1) := by kernel_rfl

def numT (x : Int) : List UInt8 := Lib.itoa x ++ [32]
mutual
/-- The text of a tree. -/
def textT : Tr → List UInt8
  | .node k n s l => numT k ++ (numT n ++ (numT l.length ++ (numT s.size ++ (s.data.toList ++ textL l))))
def textL : List Tr → List UInt8
  | [] => []
  | t :: ts => textT t ++ textL ts
end
theorem textL_append (u v : List Tr) : textL (u ++ v) = textL u ++ textL v := by
  induction u with
  | nil => rfl
  | cons t ts ih => simp [textL, ih]
theorem textL_take {l : List Tr} {j : Nat} (h : j < l.length) : textL (l.take (j + 1)) = textL (l.take j) ++ textT l[j] := by
  rw [List.take_succ_eq_append_getElem h, textL_append]; simp [textL]
theorem textL_take_le {l : List Tr} {j : Nat} (h : j < l.length) : (textL (l.take j)).length + (textT l[j]).length ≤ (textL l).length := by
  have e : l = l.take (j + 1) ++ l.drop (j + 1) := by simp
  have h1 : textL l = textL (l.take (j + 1)) ++ textL (l.drop (j + 1)) := by rw [← textL_append, ← e]
  rw [h1, textL_take h]
  simp

/-- v is a slice of these bytes, its own. -/
def Bytes (B : Nat) (W : World) (v : Value) (bs : List UInt8) : Prop := W.ownsRow B 5 1 v bs.length (Lib.byteCells bs)
def TextPost (B : Nat) (bs : List UInt8) (w : World) (e : Ending) (w' : World) : Prop := ∃ v', e = .returned v' ∧ Bytes B w' v' bs ∧ Below B w w' ∧ Lib.OthersKept 5 none w w'
theorem Box.others {W W' : World} {b : Nat} {cs : Array Value} {t : TypeId} (h : Box W b cs t) (ho : Lib.OthersKept 5 none W W') (ht : t ≠ 5) : Box W' b cs t :=
  ho b _ h (by simp) (fun c fz e => ht (by cases e; rfl))
theorem row_cells5 {W : World} {B k : Nat} {v : Value} {xs : List Value} (h : W.ownsRow B 5 1 v k xs) (g : Nat) (hg : v.ownBlock = some g) : ∃ c fz, W.heap[g]? = some (.cells c 5 fz) := by
  rcases h.2 with ⟨rfl, _⟩ | ⟨g', cap, cur, rfl, _, hgb, _⟩
  · cases hg
  · cases hg; exact ⟨_, _, hgb⟩
theorem txt_step {B n2 : Nat} {w wr w1 w2 : World} {bs : List UInt8} {x : Int} {v1 v2 : Value} (hB : Below B w wr) (hO : Lib.OthersKept 5 none w wr) (hsz : B ≤ wr.heap.size)
    (h1 : w1.ownsRow B 5 1 v1 (bs.length + (Lib.itoa x).length) (Lib.byteCells bs ++ Lib.byteCells (Lib.itoa x))) (hB1 : Below B wr w1) (hO1 : Lib.OthersKept 5 none wr w1)
    (hn2 : n2 = bs.length + (Lib.itoa x).length + 1) (h2 : w2.ownsRow B 5 1 v2 n2 (Lib.byteCells bs ++ (Lib.byteCells (Lib.itoa x) ++ [.int .u8 32]))) (hg : (w1.alloc (.cells #[.int .u8 32] 5)).grownBy w2 v1.ownBlock) :
    Bytes B w2 v2 (bs ++ numT x) ∧ Below B w w2 ∧ Lib.OthersKept 5 none w w2 ∧ B ≤ w2.heap.size := by
  have hs1 := hB1.size
  have h1a := World.ownsRow.alloc h1 (.cells #[.int .u8 32] 5)
  have hsz2 : B ≤ w2.heap.size := by have := hg.size; simp at this; omega
  refine ⟨?_, (hB.trans hB1).trans ((below_a1 (by omega) _).trans (grown_below' hg (by simp; omega) (fun g e => (h1.lt g e).1))), ((hO.trans hO1).alloc _).grown hg (fun g e => row_cells5 h1a g e), hsz2⟩
  unfold Bytes
  have e1 : (bs ++ numT x).length = bs.length + (Lib.itoa x).length + 1 := by simp [numT]; omega
  have e2 : Lib.byteCells (bs ++ numT x) = Lib.byteCells bs ++ (Lib.byteCells (Lib.itoa x) ++ [.int .u8 32]) := by simp [Lib.byteCells, numT]
  rw [e1, e2, ← hn2]
  exact h2
def preN (k n : Int) (len slen : Nat) : Nat → List UInt8
  | 0 => []
  | 1 => numT k
  | 2 => numT k ++ numT n
  | 3 => numT k ++ numT n ++ numT len
  | _ => numT k ++ numT n ++ numT len ++ numT slen

theorem ix0 (k n x y : Int) (W : World) : (Instr.index 159 (.agg #[.int .i64 k, .int .i64 n, .int .i64 x, .int .i64 y]) (.int .i64 0)).run Tryd.prog W = .ok (.int .i64 k) W := by kernel_rfl
theorem ix1 (k n x y : Int) (W : World) : (Instr.index 159 (.agg #[.int .i64 k, .int .i64 n, .int .i64 x, .int .i64 y]) (.int .i64 1)).run Tryd.prog W = .ok (.int .i64 n) W := by kernel_rfl
theorem ix2 (k n x y : Int) (W : World) : (Instr.index 159 (.agg #[.int .i64 k, .int .i64 n, .int .i64 x, .int .i64 y]) (.int .i64 2)).run Tryd.prog W = .ok (.int .i64 x) W := by kernel_rfl
theorem ix3 (k n x y : Int) (W : World) : (Instr.index 159 (.agg #[.int .i64 k, .int .i64 n, .int .i64 x, .int .i64 y]) (.int .i64 3)).run Tryd.prog W = .ok (.int .i64 y) W := by kernel_rfl
def selN (k n : Int) (len slen : Nat) : Nat → Int
  | 0 => k
  | 1 => n
  | 2 => len
  | _ => slen
theorem preN_succ (k n : Int) (len slen : Nat) : ∀ j, j < 4 → preN k n len slen j ++ numT (selN k n len slen j) = preN k n len slen (j + 1)
  | 0, _ => rfl
  | 1, _ => rfl
  | 2, _ => rfl
  | 3, _ => rfl
  | j + 4, h => by omega
theorem numT_length (x : Int) : (numT x).length = (Lib.itoa x).length + 1 := by simp [numT]
theorem preN_length (k n : Int) (len slen : Nat) : ∀ j, (preN k n len slen j).length ≤ (Lib.itoa k).length + (Lib.itoa n).length + (Lib.itoa len).length + (Lib.itoa slen).length + 4
  | 0 => Nat.zero_le _
  | 1 => by show (numT k).length ≤ _; rw [numT_length]; omega
  | 2 => by show (numT k ++ numT n).length ≤ _; rw [List.length_append, numT_length, numT_length]; omega
  | 3 => by show (numT k ++ numT n ++ numT len).length ≤ _; rw [List.length_append, List.length_append, numT_length, numT_length, numT_length]; omega
  | j + 4 => by show (numT k ++ numT n ++ numT len ++ numT slen).length ≤ _; rw [List.length_append, List.length_append, List.length_append, numT_length, numT_length, numT_length, numT_length]; omega

set_option maxRecDepth 100000 in
set_option maxHeartbeats 2000000 in
theorem appendText_any (B n₀ : Nat) (hn : n₀ ≤ B) (T : Tr) : ∀ (tv sv : Value) (bs : List UInt8) (w : World), IsT n₀ w T tv → Bytes B w sv bs → B ≤ w.heap.size → bs.length + (textT T).length ≤ 1000000000 → Lib.TabBelow Tryd.prog B w "internal/strconv.uint64pow10" .u64 Lib.pow10Tab →
    Calls Tryd.prog 142 #[sv, tv] w (TextPost B (bs ++ textT T) w) := by
  induction T using Tr.ind with
  | h k n s l ih =>
  intro tv sv bs w hT hbs hsz hlen htab
  obtain ⟨i0, hi, hz0, hz1, hz2⟩ := info_parts infoU8
  obtain ⟨a, c, rfl, ⟨hk1, hk2⟩, ⟨hn1, hn2⟩, hs, hlc, hcm, hl⟩ := hT.open
  have HI := Lib.hid ih
  have HL := Lib.hid hl
  have htx : textT (.node k n s l) = preN k n l.length s.size 4 ++ (s.data.toList ++ textL l) := by
    rw [show preN k n l.length s.size 4 = numT k ++ numT n ++ numT l.length ++ numT s.size from rfl]
    simp only [textT, List.append_assoc]
  have Htx := Lib.hid htx
  have hln : bs.length + (Lib.itoa k).length + (Lib.itoa n).length + (Lib.itoa l.length).length + (Lib.itoa s.size).length + 4 + s.size + (textL l).length ≤ 1000000000 := by
    have : s.data.toList.length = s.size := by simp only [ByteArray.size, Array.length_toList]
    simp only [textT, List.length_append, numT_length] at hlen
    omega
  have hsM : (s.size : Int) ≤ 9223372036854775807 := by unfold maxLen at hs; omega
  have hlM : (l.length : Int) ≤ 9223372036854775807 := by unfold maxLen at hcm; omega
  clear ih hl hT hlen htx
  have b0 : Box (w.alloc (.cells #[.int .i64 k, .int .i64 n, .string s, .slice a l.length c] 25)) w.heap.size #[.int .i64 k, .int .i64 n, .string s, .slice a l.length c] 25 := Box.at rfl
  go_enter Tryd.func142, Tryd.ntmps142
  go_wp2_with fail
  go_loopw [0, 20] (fun sv i wr => ∃ j : Nat, j ≤ 4 ∧ i = .int .i64 j ∧ Bytes B wr sv (bs ++ preN k n l.length s.size j) ∧ Below B (w.alloc (.cells #[.int .i64 k, .int .i64 n, .string s, .slice a l.length c] 25)) wr ∧ Lib.OthersKept 5 none (w.alloc (.cells #[.int .i64 k, .int .i64 n, .string s, .slice a l.length c] 25)) wr ∧ B ≤ wr.heap.size) (fun _ i _ => 4 - (intOf i).toNat)
  case atStart => exact ⟨0, Nat.zero_le _, rfl, by simpa [preN, Bytes] using World.ownsRow.alloc hbs _, Below.refl _ _, Lib.OthersKept.refl _ _ _, by simp; omega⟩
  case round =>
    obtain ⟨j, hj, rfl, hbj, hB, hO, hszr⟩ := hrel
    have hpl := preN_length k n l.length s.size j
    have hB0 : Below B w (w.alloc (.cells #[.int .i64 k, .int .i64 n, .string s, .slice a l.length c] 25)) := below_a1 hsz _
    by_cases hlt : j < 4
    · have hj4 : j = 0 ∨ j = 1 ∨ j = 2 ∨ j = 3 := by omega
      rcases hj4 with rfl | rfl | rfl | rfl
      · rw [show (((0 : Nat)) : Int) = 0 from rfl]
        have hix := ix0 k n l.length s.size wr
        go_wp2_with fail
        refine (Tryd.strconv_AppendInt_10 B (bs ++ preN k n l.length s.size 0).length k hk1 hk2 _ _ wr hbj hszr (by rw [List.length_append]; omega) (htab.on (hB0.trans hB))).mono ?_
        rintro e w1 ⟨v1, rfl, h1, hB1, hO1⟩
        have hsz1 := hB1.size
        have h1a := World.ownsRow.alloc h1 (.cells #[.int .u8 32] 5)
        go_wp2_with (at_builtin; refine wpList_append_own _ rfl _ _ 155 rfl B 5 i0 (.int .u8 0) 1 1 Tryd.underlying155 hi hz0 hz1 hz2 rfl (by decide) _ _ _ rfl h1a ⟨w1.heap.size, 0, none⟩ 1 1 [.int .u8 32] rfl rfl (cell_one_new _ _ _) (fun x hx => by simp at hx; subst hx; rfl) (by unfold maxLen; rw [List.length_append]; omega) (by rw [List.length_append]; omega) (by rw [World.size_alloc]; omega) ?_)
        intro v2 w2 hown2 hgrow _
        have hrel := txt_step (x := k) hB hO hszr h1 hB1 hO1 (by rw [List.length_append]) hown2 hgrow
        rw [List.append_assoc, show preN k n l.length s.size 0 ++ numT k = preN k n l.length s.size 1 from preN_succ k n l.length s.size 0 (by decide)] at hrel
        have Hrel := Lib.hid hrel
        clear h1 h1a hB1 hO1 hown2 hgrow hrel
        go_wp2_with fail
        go_roundw
        case rel => exact ⟨1, by decide, rfl, Hrel.out.1, Hrel.out.2.1, Hrel.out.2.2.1, Hrel.out.2.2.2⟩
        case measure => simp [intOf]
      · rw [show (((1 : Nat)) : Int) = 1 from rfl]
        have hix := ix1 k n l.length s.size wr
        go_wp2_with fail
        refine (Tryd.strconv_AppendInt_10 B (bs ++ preN k n l.length s.size 1).length n hn1 hn2 _ _ wr hbj hszr (by rw [List.length_append]; omega) (htab.on (hB0.trans hB))).mono ?_
        rintro e w1 ⟨v1, rfl, h1, hB1, hO1⟩
        have hsz1 := hB1.size
        have h1a := World.ownsRow.alloc h1 (.cells #[.int .u8 32] 5)
        go_wp2_with (at_builtin; refine wpList_append_own _ rfl _ _ 155 rfl B 5 i0 (.int .u8 0) 1 1 Tryd.underlying155 hi hz0 hz1 hz2 rfl (by decide) _ _ _ rfl h1a ⟨w1.heap.size, 0, none⟩ 1 1 [.int .u8 32] rfl rfl (cell_one_new _ _ _) (fun x hx => by simp at hx; subst hx; rfl) (by unfold maxLen; rw [List.length_append]; omega) (by rw [List.length_append]; omega) (by rw [World.size_alloc]; omega) ?_)
        intro v2 w2 hown2 hgrow _
        have hrel := txt_step (x := n) hB hO hszr h1 hB1 hO1 (by rw [List.length_append]) hown2 hgrow
        rw [List.append_assoc, show preN k n l.length s.size 1 ++ numT n = preN k n l.length s.size 2 from preN_succ k n l.length s.size 1 (by decide)] at hrel
        have Hrel := Lib.hid hrel
        clear h1 h1a hB1 hO1 hown2 hgrow hrel
        go_wp2_with fail
        go_roundw
        case rel => exact ⟨2, by decide, rfl, Hrel.out.1, Hrel.out.2.1, Hrel.out.2.2.1, Hrel.out.2.2.2⟩
        case measure => simp [intOf]
      · rw [show (((2 : Nat)) : Int) = 2 from rfl]
        have hix := ix2 k n l.length s.size wr
        go_wp2_with fail
        refine (Tryd.strconv_AppendInt_10 B (bs ++ preN k n l.length s.size 2).length (l.length : Int) (by omega) (by omega) _ _ wr hbj hszr (by rw [List.length_append]; omega) (htab.on (hB0.trans hB))).mono ?_
        rintro e w1 ⟨v1, rfl, h1, hB1, hO1⟩
        have hsz1 := hB1.size
        have h1a := World.ownsRow.alloc h1 (.cells #[.int .u8 32] 5)
        go_wp2_with (at_builtin; refine wpList_append_own _ rfl _ _ 155 rfl B 5 i0 (.int .u8 0) 1 1 Tryd.underlying155 hi hz0 hz1 hz2 rfl (by decide) _ _ _ rfl h1a ⟨w1.heap.size, 0, none⟩ 1 1 [.int .u8 32] rfl rfl (cell_one_new _ _ _) (fun x hx => by simp at hx; subst hx; rfl) (by unfold maxLen; rw [List.length_append]; omega) (by rw [List.length_append]; omega) (by rw [World.size_alloc]; omega) ?_)
        intro v2 w2 hown2 hgrow _
        have hrel := txt_step (x := (l.length : Int)) hB hO hszr h1 hB1 hO1 (by rw [List.length_append]) hown2 hgrow
        rw [List.append_assoc, show preN k n l.length s.size 2 ++ numT (l.length : Int) = preN k n l.length s.size 3 from preN_succ k n l.length s.size 2 (by decide)] at hrel
        have Hrel := Lib.hid hrel
        clear h1 h1a hB1 hO1 hown2 hgrow hrel
        go_wp2_with fail
        go_roundw
        case rel => exact ⟨3, by decide, rfl, Hrel.out.1, Hrel.out.2.1, Hrel.out.2.2.1, Hrel.out.2.2.2⟩
        case measure => simp [intOf]
      · rw [show (((3 : Nat)) : Int) = 3 from rfl]
        have hix := ix3 k n l.length s.size wr
        go_wp2_with fail
        refine (Tryd.strconv_AppendInt_10 B (bs ++ preN k n l.length s.size 3).length (s.size : Int) (by omega) (by omega) _ _ wr hbj hszr (by rw [List.length_append]; omega) (htab.on (hB0.trans hB))).mono ?_
        rintro e w1 ⟨v1, rfl, h1, hB1, hO1⟩
        have hsz1 := hB1.size
        have h1a := World.ownsRow.alloc h1 (.cells #[.int .u8 32] 5)
        go_wp2_with (at_builtin; refine wpList_append_own _ rfl _ _ 155 rfl B 5 i0 (.int .u8 0) 1 1 Tryd.underlying155 hi hz0 hz1 hz2 rfl (by decide) _ _ _ rfl h1a ⟨w1.heap.size, 0, none⟩ 1 1 [.int .u8 32] rfl rfl (cell_one_new _ _ _) (fun x hx => by simp at hx; subst hx; rfl) (by unfold maxLen; rw [List.length_append]; omega) (by rw [List.length_append]; omega) (by rw [World.size_alloc]; omega) ?_)
        intro v2 w2 hown2 hgrow _
        have hrel := txt_step (x := (s.size : Int)) hB hO hszr h1 hB1 hO1 (by rw [List.length_append]) hown2 hgrow
        rw [List.append_assoc, show preN k n l.length s.size 3 ++ numT (s.size : Int) = preN k n l.length s.size 4 from preN_succ k n l.length s.size 3 (by decide)] at hrel
        have Hrel := Lib.hid hrel
        clear h1 h1a hB1 hO1 hown2 hgrow hrel
        go_wp2_with fail
        go_roundw
        case rel => exact ⟨4, by decide, rfl, Hrel.out.1, Hrel.out.2.1, Hrel.out.2.2.1, Hrel.out.2.2.2⟩
        case measure => simp [intOf]
    · obtain rfl : j = 4 := by omega
      have p0 := b0.others hO (by decide)
      have c2 := p0.cell 2
      have c3 := p0.cell 3
      have l0 := p0.lt
      simp only [List.getElem?_toArray, List.getElem?_cons_succ, List.getElem?_cons_zero] at c2 c3
      go_wp2_with (at_builtin; refine Lib.wpList_append_own_string _ rfl _ _ 155 9 rfl B 5 i0 Tryd.underlying155 Tryd.underlying9 hi hz0 hz1 hz2 _ _ _ rfl hbj s rfl (by unfold maxLen; rw [List.length_append]; omega) (by rw [List.length_append]; omega) hszr ?_)
      intro v2 w2 hown2 hgrow _
      have hbs2 : Bytes B w2 v2 (bs ++ preN k n l.length s.size 4 ++ s.data.toList) := by
        unfold Bytes
        have e1 : (bs ++ preN k n l.length s.size 4 ++ s.data.toList).length = bs.length + (preN k n l.length s.size 4).length + s.size := by
          rw [List.length_append, List.length_append]; simp only [ByteArray.size, Array.length_toList]
        have e2 : Lib.byteCells (bs ++ preN k n l.length s.size 4 ++ s.data.toList) = Lib.byteCells (bs ++ preN k n l.length s.size 4) ++ Lib.strCells s := by rw [Lib.strCells_eq]; simp [Lib.byteCells]
        rw [e1, e2]
        exact hown2
      have hB2 := (hB0.trans hB).trans (grown_below' hgrow hszr (fun g e => (hbj.lt g e).1))
      have hO2 := hO.grown hgrow (fun g e => row_cells5 hbj g e)
      have hsz2 : B ≤ w2.heap.size := Nat.le_trans hszr hgrow.size
      have p2 := b0.others hO2 (by decide)
      have d3 := p2.cell 3
      have ld := p2.lt
      simp only [List.getElem?_toArray, List.getElem?_cons_succ, List.getElem?_cons_zero] at d3
      have HZ := Lib.hid (And.intro hbs2 (And.intro hB2 hO2))
      clear hbs2 hB2 hO2 hown2 hgrow hbj hB hO c2 c3 p0 p2
      go_wp2_with fail
      go_loopw [0, 37] (fun sv i wr => ∃ j : Nat, j ≤ l.length ∧ i = .int .i64 j ∧ Bytes B wr sv (bs ++ preN k n l.length s.size 4 ++ s.data.toList ++ textL (l.take j)) ∧ Below B w wr ∧ Lib.OthersKept 5 none (w.alloc (.cells #[.int .i64 k, .int .i64 n, .string s, .slice a l.length c] 25)) wr ∧ B ≤ wr.heap.size) (fun _ i _ => l.length - (intOf i).toNat)
      case atStart => exact ⟨0, Nat.zero_le _, rfl, by simpa [textL] using HZ.out.1, HZ.out.2.1, HZ.out.2.2, hsz2⟩
      case round =>
        obtain ⟨j, hj, rfl, hbj, hB, hO, hszr⟩ := hrel
        by_cases hlt : j < l.length
        · obtain ⟨b, off, rfl, hb⟩ := HL.out.addr (by omega)
          obtain ⟨tk, tn, ts, tl, ta, tc, te, c0, c1, c2, c3, ht⟩ := HL.out.node' hb (hB.mono hn) j hlt
          have Te := Lib.hid te
          have hbw : b < wr.heap.size := by omega
          have htl := textL_take_le hlt
          have hsl : s.data.toList.length = s.size := by simp only [ByteArray.size, Array.length_toList]
          have hpre := preN_length k n l.length s.size 4
          clear te
          have HJ := Lib.hid (And.intro hbj (And.intro hB hO))
          clear hbj hB hO
          go_wp2_with fail
          refine (HI.out _ (List.getElem_mem hlt) _ _ _ _ ((ht.below (HJ.out.2.1.mono hn)).below (below_a1 (by omega) _)) (World.ownsRow.alloc HJ.out.1 _) (by simp; omega) (by simp only [List.length_append]; omega) (htab.on (HJ.out.2.1.trans (below_a1 hszr _)))).mono ?_
          rintro e w3 ⟨v3, rfl, hb3, hB3, hO3⟩
          have HK := Lib.hid (And.intro hb3 (And.intro ((HJ.out.2.1.trans (below_a1 hszr _)).trans hB3) ((HJ.out.2.2.alloc _).trans hO3)))
          have hsz3 : B ≤ w3.heap.size := by have := hB3.size; simp at this; omega
          clear hb3 hB3 hO3
          go_wp2_with fail
          go_roundw
          case rel => exact ⟨j + 1, hlt, by go_num, by rw [textL_take hlt, ← List.append_assoc]; exact HK.out.1, HK.out.2.1, HK.out.2.2, hsz3⟩
          case measure => simp [intOf]; omega
        · rw [List.take_of_length_le (by omega)] at hbj
          have HJ := Lib.hid (And.intro hbj (And.intro hB hO))
          clear hbj hB hO
          go_wp2_with fail
          go_ret
          refine ⟨_, rfl, ?_, HJ.out.2.1, (Lib.OthersKept.refl _ _ w |>.alloc _).trans HJ.out.2.2⟩
          rw [Htx.out, ← List.append_assoc, ← List.append_assoc]
          exact HJ.out.1
end Go.Proofs.YtckoecmdaefoiaaDoor
