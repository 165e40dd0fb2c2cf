import Derived.Lib.AppendStr
import Derived.Test.YtdigiaigbcfccaaGreatDoorEqL
import Derived.Maps.OwnSet
import Derived.StringKeys
import Derived.Lib.SlBytesRow
namespace Go.Proofs.YtdigiaigbcfccaaGreatDoor
open Go.RowKit Go

theorem infoU8 : (Tryz.prog.info? 5).map (fun i => (i.zero, i.size, i.bytes)) = some (some (.int .u8 0), 1, 1) := by kernel_rfl

def numT (x : Int) : List UInt8 := Lib.itoa x ++ [32]
mutual
/-- The text of a tree. -/
def textT : Tr → List UInt8
  | .node k n s l => numT k ++ (numT n ++ (numT l.length ++ (numT s.size ++ (s.data.toList ++ textL l))))
def textL : List Tr → List UInt8
  | [] => []
  | t :: ts => textT t ++ textL ts
end
theorem textL_append (u v : List Tr) : textL (u ++ v) = textL u ++ textL v := by
  induction u with
  | nil => rfl
  | cons t ts ih => simp [textL, ih]
theorem textL_take {l : List Tr} {j : Nat} (h : j < l.length) : textL (l.take (j + 1)) = textL (l.take j) ++ textT l[j] := by
  rw [List.take_succ_eq_append_getElem h, textL_append]; simp [textL]
theorem textL_take_le {l : List Tr} {j : Nat} (h : j < l.length) : (textL (l.take j)).length + (textT l[j]).length ≤ (textL l).length := by
  have e : l = l.take (j + 1) ++ l.drop (j + 1) := by simp
  have h1 : textL l = textL (l.take (j + 1)) ++ textL (l.drop (j + 1)) := by rw [← textL_append, ← e]
  rw [h1, textL_take h]
  simp

/-- v is a slice of these bytes, its own. -/
def Bytes (B : Nat) (W : World) (v : Value) (bs : List UInt8) : Prop := W.ownsRow B 5 1 v bs.length (Lib.byteCells bs)
def TextPost (B : Nat) (bs : List UInt8) (w : World) (e : Ending) (w' : World) : Prop := ∃ v', e = .returned v' ∧ Bytes B w' v' bs ∧ Below B w w' ∧ Lib.OthersKept 5 none w w'
theorem Box.others {W W' : World} {b : Nat} {cs : Array Value} {t : TypeId} (h : Box W b cs t) (ho : Lib.OthersKept 5 none W W') (ht : t ≠ 5) : Box W' b cs t :=
  ho b _ h (by simp) (fun c fz e => ht (by cases e; rfl))
theorem row_cells5 {W : World} {B k : Nat} {v : Value} {xs : List Value} (h : W.ownsRow B 5 1 v k xs) (g : Nat) (hg : v.ownBlock = some g) : ∃ c fz, W.heap[g]? = some (.cells c 5 fz) := by
  rcases h.2 with ⟨rfl, _⟩ | ⟨g', cap, cur, rfl, _, hgb, _⟩
  · cases hg
  · cases hg; exact ⟨_, _, hgb⟩
theorem txt_step {B n2 : Nat} {w wr w1 w2 : World} {bs : List UInt8} {x : Int} {v1 v2 : Value} (hB : Below B w wr) (hO : Lib.OthersKept 5 none w wr) (hsz : B ≤ wr.heap.size)
    (h1 : w1.ownsRow B 5 1 v1 (bs.length + (Lib.itoa x).length) (Lib.byteCells bs ++ Lib.byteCells (Lib.itoa x))) (hB1 : Below B wr w1) (hO1 : Lib.OthersKept 5 none wr w1)
    (hn2 : n2 = bs.length + (Lib.itoa x).length + 1) (h2 : w2.ownsRow B 5 1 v2 n2 (Lib.byteCells bs ++ (Lib.byteCells (Lib.itoa x) ++ [.int .u8 32]))) (hg : (w1.alloc (.cells #[.int .u8 32] 5)).grownBy w2 v1.ownBlock) :
    Bytes B w2 v2 (bs ++ numT x) ∧ Below B w w2 ∧ Lib.OthersKept 5 none w w2 ∧ B ≤ w2.heap.size := by
  have hs1 := hB1.size
  have h1a := World.ownsRow.alloc h1 (.cells #[.int .u8 32] 5)
  have hsz2 : B ≤ w2.heap.size := by have := hg.size; simp at this; omega
  refine ⟨?_, (hB.trans hB1).trans ((below_a1 (by omega) _).trans (grown_below' hg (by simp; omega) (fun g e => (h1.lt g e).1))), ((hO.trans hO1).alloc _).grown hg (fun g e => row_cells5 h1a g e), hsz2⟩
  unfold Bytes
  have e1 : (bs ++ numT x).length = bs.length + (Lib.itoa x).length + 1 := by simp [numT]; omega
  have e2 : Lib.byteCells (bs ++ numT x) = Lib.byteCells bs ++ (Lib.byteCells (Lib.itoa x) ++ [.int .u8 32]) := by simp [Lib.byteCells, numT]
  rw [e1, e2, ← hn2]
  exact h2
def preN (k n : Int) (len slen : Nat) : Nat → List UInt8
  | 0 => []
  | 1 => numT k
  | 2 => numT k ++ numT n
  | 3 => numT k ++ numT n ++ numT len
  | _ => numT k ++ numT n ++ numT len ++ numT slen

theorem ix0 (k n x y : Int) (W : World) : (Instr.index 142 (.agg #[.int .i64 k, .int .i64 n, .int .i64 x, .int .i64 y]) (.int .i64 0)).run Tryz.prog W = .ok (.int .i64 k) W := by kernel_rfl
theorem ix1 (k n x y : Int) (W : World) : (Instr.index 142 (.agg #[.int .i64 k, .int .i64 n, .int .i64 x, .int .i64 y]) (.int .i64 1)).run Tryz.prog W = .ok (.int .i64 n) W := by kernel_rfl
theorem ix2 (k n x y : Int) (W : World) : (Instr.index 142 (.agg #[.int .i64 k, .int .i64 n, .int .i64 x, .int .i64 y]) (.int .i64 2)).run Tryz.prog W = .ok (.int .i64 x) W := by kernel_rfl
theorem ix3 (k n x y : Int) (W : World) : (Instr.index 142 (.agg #[.int .i64 k, .int .i64 n, .int .i64 x, .int .i64 y]) (.int .i64 3)).run Tryz.prog W = .ok (.int .i64 y) W := by kernel_rfl
def selN (k n : Int) (len slen : Nat) : Nat → Int
  | 0 => k
  | 1 => n
  | 2 => len
  | _ => slen
theorem preN_succ (k n : Int) (len slen : Nat) : ∀ j, j < 4 → preN k n len slen j ++ numT (selN k n len slen j) = preN k n len slen (j + 1)
  | 0, _ => rfl
  | 1, _ => rfl
  | 2, _ => rfl
  | 3, _ => rfl
  | j + 4, h => by omega
theorem numT_length (x : Int) : (numT x).length = (Lib.itoa x).length + 1 := by simp [numT]
theorem preN_length (k n : Int) (len slen : Nat) : ∀ j, (preN k n len slen j).length ≤ (Lib.itoa k).length + (Lib.itoa n).length + (Lib.itoa len).length + (Lib.itoa slen).length + 4
  | 0 => Nat.zero_le _
  | 1 => by show (numT k).length ≤ _; rw [numT_length]; omega
  | 2 => by show (numT k ++ numT n).length ≤ _; rw [List.length_append, numT_length, numT_length]; omega
  | 3 => by show (numT k ++ numT n ++ numT len).length ≤ _; rw [List.length_append, List.length_append, numT_length, numT_length, numT_length]; omega
  | j + 4 => by show (numT k ++ numT n ++ numT len ++ numT slen).length ≤ _; rw [List.length_append, List.length_append, List.length_append, numT_length, numT_length, numT_length, numT_length]; omega

set_option maxRecDepth 100000 in
set_option maxHeartbeats 2000000 in
theorem appendText_any (B n₀ : Nat) (hn : n₀ ≤ B) (T : Tr) : ∀ (tv sv : Value) (bs : List UInt8) (w : World), IsT n₀ w T tv → Bytes B w sv bs → B ≤ w.heap.size → bs.length + (textT T).length ≤ 1000000000 → Lib.TabBelow Tryz.prog B w "internal/strconv.uint64pow10" .u64 Lib.pow10Tab →
    Calls Tryz.prog 95 #[sv, tv] w (TextPost B (bs ++ textT T) w) := by
  induction T using Tr.ind with
  | h k n s l ih =>
  intro tv sv bs w hT hbs hsz hlen htab
  obtain ⟨i0, hi, hz0, hz1, hz2⟩ := info_parts infoU8
  obtain ⟨a, c, rfl, ⟨hk1, hk2⟩, ⟨hn1, hn2⟩, hs, hlc, hcm, hl⟩ := hT.open
  have HI := Lib.hid ih
  have HL := Lib.hid hl
  have htx : textT (.node k n s l) = preN k n l.length s.size 4 ++ (s.data.toList ++ textL l) := by
    rw [show preN k n l.length s.size 4 = numT k ++ numT n ++ numT l.length ++ numT s.size from rfl]
    simp only [textT, List.append_assoc]
  have Htx := Lib.hid htx
  have hln : bs.length + (Lib.itoa k).length + (Lib.itoa n).length + (Lib.itoa l.length).length + (Lib.itoa s.size).length + 4 + s.size + (textL l).length ≤ 1000000000 := by
    have : s.data.toList.length = s.size := by simp only [ByteArray.size, Array.length_toList]
    simp only [textT, List.length_append, numT_length] at hlen
    omega
  have hsM : (s.size : Int) ≤ 9223372036854775807 := by unfold maxLen at hs; omega
  have hlM : (l.length : Int) ≤ 9223372036854775807 := by unfold maxLen at hcm; omega
  clear ih hl hT hlen htx
  have b0 : Box (w.alloc (.cells #[.int .i64 k, .int .i64 n, .string s, .slice a l.length c] 24)) w.heap.size #[.int .i64 k, .int .i64 n, .string s, .slice a l.length c] 24 := Box.at rfl
  go_enter Tryz.func95, Tryz.ntmps95
  go_wp2_with fail
  go_loopw [0, 20] (fun sv i wr => ∃ j : Nat, j ≤ 4 ∧ i = .int .i64 j ∧ Bytes B wr sv (bs ++ preN k n l.length s.size j) ∧ Below B (w.alloc (.cells #[.int .i64 k, .int .i64 n, .string s, .slice a l.length c] 24)) wr ∧ Lib.OthersKept 5 none (w.alloc (.cells #[.int .i64 k, .int .i64 n, .string s, .slice a l.length c] 24)) wr ∧ B ≤ wr.heap.size) (fun _ i _ => 4 - (intOf i).toNat)
  case atStart => exact ⟨0, Nat.zero_le _, rfl, by simpa [preN, Bytes] using World.ownsRow.alloc hbs _, Below.refl _ _, Lib.OthersKept.refl _ _ _, by simp; omega⟩
  case round =>
    obtain ⟨j, hj, rfl, hbj, hB, hO, hszr⟩ := hrel
    have hpl := preN_length k n l.length s.size j
    have hB0 : Below B w (w.alloc (.cells #[.int .i64 k, .int .i64 n, .string s, .slice a l.length c] 24)) := below_a1 hsz _
    by_cases hlt : j < 4
    · have hj4 : j = 0 ∨ j = 1 ∨ j = 2 ∨ j = 3 := by omega
      rcases hj4 with rfl | rfl | rfl | rfl
      · rw [show (((0 : Nat)) : Int) = 0 from rfl]
        have hix := ix0 k n l.length s.size wr
        go_wp2_with fail
        refine (Tryz.strconv_AppendInt_10 B (bs ++ preN k n l.length s.size 0).length k hk1 hk2 _ _ wr hbj hszr (by rw [List.length_append]; omega) (htab.on (hB0.trans hB))).mono ?_
        rintro e w1 ⟨v1, rfl, h1, hB1, hO1⟩
        have hsz1 := hB1.size
        have h1a := World.ownsRow.alloc h1 (.cells #[.int .u8 32] 5)
        go_wp2_with (at_builtin; refine wpList_append_own _ rfl _ _ 128 rfl B 5 i0 (.int .u8 0) 1 1 Tryz.underlying128 hi hz0 hz1 hz2 rfl (by decide) _ _ _ rfl h1a ⟨w1.heap.size, 0, none⟩ 1 1 [.int .u8 32] rfl rfl (cell_one_new _ _ _) (fun x hx => by simp at hx; subst hx; rfl) (by unfold maxLen; rw [List.length_append]; omega) (by rw [List.length_append]; omega) (by rw [World.size_alloc]; omega) ?_)
        intro v2 w2 hown2 hgrow _
        have hrel := txt_step (x := k) hB hO hszr h1 hB1 hO1 (by rw [List.length_append]) hown2 hgrow
        rw [List.append_assoc, show preN k n l.length s.size 0 ++ numT k = preN k n l.length s.size 1 from preN_succ k n l.length s.size 0 (by decide)] at hrel
        have Hrel := Lib.hid hrel
        clear h1 h1a hB1 hO1 hown2 hgrow hrel
        go_wp2_with fail
        go_roundw
        case rel => exact ⟨1, by decide, rfl, Hrel.out.1, Hrel.out.2.1, Hrel.out.2.2.1, Hrel.out.2.2.2⟩
        case measure => simp [intOf]
      · rw [show (((1 : Nat)) : Int) = 1 from rfl]
        have hix := ix1 k n l.length s.size wr
        go_wp2_with fail
        refine (Tryz.strconv_AppendInt_10 B (bs ++ preN k n l.length s.size 1).length n hn1 hn2 _ _ wr hbj hszr (by rw [List.length_append]; omega) (htab.on (hB0.trans hB))).mono ?_
        rintro e w1 ⟨v1, rfl, h1, hB1, hO1⟩
        have hsz1 := hB1.size
        have h1a := World.ownsRow.alloc h1 (.cells #[.int .u8 32] 5)
        go_wp2_with (at_builtin; refine wpList_append_own _ rfl _ _ 128 rfl B 5 i0 (.int .u8 0) 1 1 Tryz.underlying128 hi hz0 hz1 hz2 rfl (by decide) _ _ _ rfl h1a ⟨w1.heap.size, 0, none⟩ 1 1 [.int .u8 32] rfl rfl (cell_one_new _ _ _) (fun x hx => by simp at hx; subst hx; rfl) (by unfold maxLen; rw [List.length_append]; omega) (by rw [List.length_append]; omega) (by rw [World.size_alloc]; omega) ?_)
        intro v2 w2 hown2 hgrow _
        have hrel := txt_step (x := n) hB hO hszr h1 hB1 hO1 (by rw [List.length_append]) hown2 hgrow
        rw [List.append_assoc, show preN k n l.length s.size 1 ++ numT n = preN k n l.length s.size 2 from preN_succ k n l.length s.size 1 (by decide)] at hrel
        have Hrel := Lib.hid hrel
        clear h1 h1a hB1 hO1 hown2 hgrow hrel
        go_wp2_with fail
        go_roundw
        case rel => exact ⟨2, by decide, rfl, Hrel.out.1, Hrel.out.2.1, Hrel.out.2.2.1, Hrel.out.2.2.2⟩
        case measure => simp [intOf]
      · rw [show (((2 : Nat)) : Int) = 2 from rfl]
        have hix := ix2 k n l.length s.size wr
        go_wp2_with fail
        refine (Tryz.strconv_AppendInt_10 B (bs ++ preN k n l.length s.size 2).length (l.length : Int) (by omega) (by omega) _ _ wr hbj hszr (by rw [List.length_append]; omega) (htab.on (hB0.trans hB))).mono ?_
        rintro e w1 ⟨v1, rfl, h1, hB1, hO1⟩
        have hsz1 := hB1.size
        have h1a := World.ownsRow.alloc h1 (.cells #[.int .u8 32] 5)
        go_wp2_with (at_builtin; refine wpList_append_own _ rfl _ _ 128 rfl B 5 i0 (.int .u8 0) 1 1 Tryz.underlying128 hi hz0 hz1 hz2 rfl (by decide) _ _ _ rfl h1a ⟨w1.heap.size, 0, none⟩ 1 1 [.int .u8 32] rfl rfl (cell_one_new _ _ _) (fun x hx => by simp at hx; subst hx; rfl) (by unfold maxLen; rw [List.length_append]; omega) (by rw [List.length_append]; omega) (by rw [World.size_alloc]; omega) ?_)
        intro v2 w2 hown2 hgrow _
        have hrel := txt_step (x := (l.length : Int)) hB hO hszr h1 hB1 hO1 (by rw [List.length_append]) hown2 hgrow
        rw [List.append_assoc, show preN k n l.length s.size 2 ++ numT (l.length : Int) = preN k n l.length s.size 3 from preN_succ k n l.length s.size 2 (by decide)] at hrel
        have Hrel := Lib.hid hrel
        clear h1 h1a hB1 hO1 hown2 hgrow hrel
        go_wp2_with fail
        go_roundw
        case rel => exact ⟨3, by decide, rfl, Hrel.out.1, Hrel.out.2.1, Hrel.out.2.2.1, Hrel.out.2.2.2⟩
        case measure => simp [intOf]
      · rw [show (((3 : Nat)) : Int) = 3 from rfl]
        have hix := ix3 k n l.length s.size wr
        go_wp2_with fail
        refine (Tryz.strconv_AppendInt_10 B (bs ++ preN k n l.length s.size 3).length (s.size : Int) (by omega) (by omega) _ _ wr hbj hszr (by rw [List.length_append]; omega) (htab.on (hB0.trans hB))).mono ?_
        rintro e w1 ⟨v1, rfl, h1, hB1, hO1⟩
        have hsz1 := hB1.size
        have h1a := World.ownsRow.alloc h1 (.cells #[.int .u8 32] 5)
        go_wp2_with (at_builtin; refine wpList_append_own _ rfl _ _ 128 rfl B 5 i0 (.int .u8 0) 1 1 Tryz.underlying128 hi hz0 hz1 hz2 rfl (by decide) _ _ _ rfl h1a ⟨w1.heap.size, 0, none⟩ 1 1 [.int .u8 32] rfl rfl (cell_one_new _ _ _) (fun x hx => by simp at hx; subst hx; rfl) (by unfold maxLen; rw [List.length_append]; omega) (by rw [List.length_append]; omega) (by rw [World.size_alloc]; omega) ?_)
        intro v2 w2 hown2 hgrow _
        have hrel := txt_step (x := (s.size : Int)) hB hO hszr h1 hB1 hO1 (by rw [List.length_append]) hown2 hgrow
        rw [List.append_assoc, show preN k n l.length s.size 3 ++ numT (s.size : Int) = preN k n l.length s.size 4 from preN_succ k n l.length s.size 3 (by decide)] at hrel
        have Hrel := Lib.hid hrel
        clear h1 h1a hB1 hO1 hown2 hgrow hrel
        go_wp2_with fail
        go_roundw
        case rel => exact ⟨4, by decide, rfl, Hrel.out.1, Hrel.out.2.1, Hrel.out.2.2.1, Hrel.out.2.2.2⟩
        case measure => simp [intOf]
    · obtain rfl : j = 4 := by omega
      have p0 := b0.others hO (by decide)
      have c2 := p0.cell 2
      have c3 := p0.cell 3
      have l0 := p0.lt
      simp only [List.getElem?_toArray, List.getElem?_cons_succ, List.getElem?_cons_zero] at c2 c3
      go_wp2_with (at_builtin; refine Lib.wpList_append_own_string _ rfl _ _ 128 9 rfl B 5 i0 Tryz.underlying128 Tryz.underlying9 hi hz0 hz1 hz2 _ _ _ rfl hbj s rfl (by unfold maxLen; rw [List.length_append]; omega) (by rw [List.length_append]; omega) hszr ?_)
      intro v2 w2 hown2 hgrow _
      have hbs2 : Bytes B w2 v2 (bs ++ preN k n l.length s.size 4 ++ s.data.toList) := by
        unfold Bytes
        have e1 : (bs ++ preN k n l.length s.size 4 ++ s.data.toList).length = bs.length + (preN k n l.length s.size 4).length + s.size := by
          rw [List.length_append, List.length_append]; simp only [ByteArray.size, Array.length_toList]
        have e2 : Lib.byteCells (bs ++ preN k n l.length s.size 4 ++ s.data.toList) = Lib.byteCells (bs ++ preN k n l.length s.size 4) ++ Lib.strCells s := by rw [Lib.strCells_eq]; simp [Lib.byteCells]
        rw [e1, e2]
        exact hown2
      have hB2 := (hB0.trans hB).trans (grown_below' hgrow hszr (fun g e => (hbj.lt g e).1))
      have hO2 := hO.grown hgrow (fun g e => row_cells5 hbj g e)
      have hsz2 : B ≤ w2.heap.size := Nat.le_trans hszr hgrow.size
      have p2 := b0.others hO2 (by decide)
      have d3 := p2.cell 3
      have ld := p2.lt
      simp only [List.getElem?_toArray, List.getElem?_cons_succ, List.getElem?_cons_zero] at d3
      have HZ := Lib.hid (And.intro hbs2 (And.intro hB2 hO2))
      clear hbs2 hB2 hO2 hown2 hgrow hbj hB hO c2 c3 p0 p2
      go_wp2_with fail
      go_loopw [0, 37] (fun sv i wr => ∃ j : Nat, j ≤ l.length ∧ i = .int .i64 j ∧ Bytes B wr sv (bs ++ preN k n l.length s.size 4 ++ s.data.toList ++ textL (l.take j)) ∧ Below B w wr ∧ Lib.OthersKept 5 none (w.alloc (.cells #[.int .i64 k, .int .i64 n, .string s, .slice a l.length c] 24)) wr ∧ B ≤ wr.heap.size) (fun _ i _ => l.length - (intOf i).toNat)
      case atStart => exact ⟨0, Nat.zero_le _, rfl, by simpa [textL] using HZ.out.1, HZ.out.2.1, HZ.out.2.2, hsz2⟩
      case round =>
        obtain ⟨j, hj, rfl, hbj, hB, hO, hszr⟩ := hrel
        by_cases hlt : j < l.length
        · obtain ⟨b, off, rfl, hb⟩ := HL.out.addr (by omega)
          obtain ⟨tk, tn, ts, tl, ta, tc, te, c0, c1, c2, c3, ht⟩ := HL.out.node' hb (hB.mono hn) j hlt
          have Te := Lib.hid te
          have hbw : b < wr.heap.size := by omega
          have htl := textL_take_le hlt
          have hsl : s.data.toList.length = s.size := by simp only [ByteArray.size, Array.length_toList]
          have hpre := preN_length k n l.length s.size 4
          clear te
          have HJ := Lib.hid (And.intro hbj (And.intro hB hO))
          clear hbj hB hO
          go_wp2_with fail
          refine (HI.out _ (List.getElem_mem hlt) _ _ _ _ ((ht.below (HJ.out.2.1.mono hn)).below (below_a1 (by omega) _)) (World.ownsRow.alloc HJ.out.1 _) (by simp; omega) (by simp only [List.length_append]; omega) (htab.on (HJ.out.2.1.trans (below_a1 hszr _)))).mono ?_
          rintro e w3 ⟨v3, rfl, hb3, hB3, hO3⟩
          have HK := Lib.hid (And.intro hb3 (And.intro ((HJ.out.2.1.trans (below_a1 hszr _)).trans hB3) ((HJ.out.2.2.alloc _).trans hO3)))
          have hsz3 : B ≤ w3.heap.size := by have := hB3.size; simp at this; omega
          clear hb3 hB3 hO3
          go_wp2_with fail
          go_roundw
          case rel => exact ⟨j + 1, hlt, by go_num, by rw [textL_take hlt, ← List.append_assoc]; exact HK.out.1, HK.out.2.1, HK.out.2.2, hsz3⟩
          case measure => simp [intOf]; omega
        · rw [List.take_of_length_le (by omega)] at hbj
          have HJ := Lib.hid (And.intro hbj (And.intro hB hO))
          clear hbj hB hO
          go_wp2_with fail
          go_ret
          refine ⟨_, rfl, ?_, HJ.out.2.1, (Lib.OthersKept.refl _ _ w |>.alloc _).trans HJ.out.2.2⟩
          rw [Htx.out, ← List.append_assoc, ← List.append_assoc]
          exact HJ.out.1
end Go.Proofs.YtdigiaigbcfccaaGreatDoor

namespace Go.Proofs.YtdigiaigbcfccaaGreatDoor
open Go.RowKit Go Go.Maps

theorem keyS : Keyed Tryz.prog 9 := string_keyed Tryz.underlying9

/-- Block b is a map that numbers these texts in their order. -/
def Dict (W : World) (b : Nat) (ks : List (List UInt8)) : Prop := ∃ D : DataW Unit, W.ownsMap Tryz.prog 9 (plainElem Tryz.prog 3) b ks.length D ∧ Tidy D ∧ Maps.size D = ks.length ∧
  ∀ key : List UInt8, Maps.has D (.string key) = decide (key ∈ ks) ∧ D.atKey (.string key) (.lit (.int .i64 0)) = .lit (.int .i64 (if key ∈ ks then (ks.idxOf key : Int) else 0))
theorem Dict.made (w : World) : Dict (w.alloc (.map #[] 0)) w.heap.size [] := ⟨_, World.ownsMap_made w _ _ _, tidy_empty, rfl, fun key => ⟨by simp [Maps.has_eq], by simp [DataW.atKey]⟩⟩
theorem Dict.lt {W : World} {b : Nat} {ks : List (List UInt8)} (h : Dict W b ks) : b < W.heap.size := by obtain ⟨D, h, _⟩ := h; exact h.lt
theorem Dict.kept {W W' : World} {b : Nat} {ks : List (List UInt8)} {row : Option Nat} (h : Dict W b ks) (hg : W.grownBy W' row) (hne : some b ≠ row) : Dict W' b ks := by
  obtain ⟨D, h, hr⟩ := h; exact ⟨D, h.kept hg hne, hr⟩
theorem Dict.not_box {W : World} {b B : Nat} {ks : List (List UInt8)} {cs : Array Value} {t : TypeId} (h : Dict W b ks) (hB : Box W B cs t) : B ≠ b := fun e => by
  subst e
  obtain ⟨D, ⟨es, clock, hm, _⟩, _⟩ := h
  rw [show W.heap[B]? = some _ from hB] at hm
  cases hm
theorem Dict.look {W : World} {b : Nat} {ks : List (List UInt8)} (h : Dict W b ks) (key : ByteArray) (hk : key.size ≤ maxLen) :
    (Instr.lookup 99 (.map (some b)) (.string key) true).run Tryz.prog W = .ok (.tuple #[.int .i64 (if key.data.toList ∈ ks then (ks.idxOf key.data.toList : Int) else 0), .bool (decide (key.data.toList ∈ ks))]) W := by
  obtain ⟨D, h, _, _, hf⟩ := h
  obtain ⟨v, ps, hr, hv⟩ := h.look_ok keyS Tryz.underlying99 (zeroI W) (plainElem_int Tryz.underlying3 (wfI (by unfold okI; omega))) (WideMaps.keyOf_string_mk Tryz.underlying9 hk)
  obtain ⟨c, rfl, hc, _⟩ := plainElem_int_inv Tryz.underlying3 hv
  rw [(hf _).2] at hc
  rw [(hf _).1] at hr
  simp only [Prod.mk.injEq] at hc
  have := hc.1
  cases this
  exact hr
theorem Dict.len {W : World} {b : Nat} {ks : List (List UInt8)} (h : Dict W b ks) (ty : TypeId) : (Builtin.len_ #[99] ty #[.map (some b)]).run Tryz.prog W = .ok (.int .i64 ks.length) W := by
  obtain ⟨D, h, _, hs, _⟩ := h
  have := h.len Tryz.underlying99 ty
  rw [hs] at this
  exact this
theorem Dict.put {W : World} {b : Nat} {ks : List (List UInt8)} (h : Dict W b ks) (hn : ks.length < 1000000000) (key : ByteArray) (hk : key.size ≤ maxLen) (hnew : ¬ key.data.toList ∈ ks) :
    ∃ w', (Instr.mapUpdate 99 (.map (some b)) (.string key) (.int .i64 ks.length)).run Tryz.prog W = .ok () w' ∧ Dict w' b (ks ++ [key.data.toList]) ∧ W.grownBy w' (some b) := by
  obtain ⟨D, h, ht, hs, hf⟩ := h
  obtain ⟨w', hr, h2, hg⟩ := h.update keyS Tryz.underlying99 (by unfold maxLen; omega) (WideMaps.keyOf_string_mk Tryz.underlying9 hk) (plainElem_int Tryz.underlying3 (wfI (x := ks.length) (by unfold okI; omega)))
  have hkl : WideAt.IsKeyLit (.string key.data.toList) := by simp [WideAt.IsKeyLit]
  refine ⟨w', hr, ⟨_, by simpa using h2, ?_, ?_, fun k2 => ?_⟩, hg⟩
  · exact ht.put hkl _
  · rw [size_put ht, (hf _).1, decide_eq_false hnew, hs]
    simp
  · by_cases e : k2 = key.data.toList
    · subst e
      rw [has_put_same ht.isMap hkl, atKey_put_same ht.isMap hkl]
      refine ⟨by simp, ?_⟩
      rw [List.idxOf_append, if_neg hnew]
      simp
    · have hne : (Lit.string k2) ≠ .string key.data.toList := fun h => by cases h; exact e rfl
      rw [has_put_other hne, atKey_put_other hne, (hf k2).1, (hf k2).2]
      refine ⟨by simp [e], ?_⟩
      by_cases hm : k2 ∈ ks
      · rw [if_pos hm, if_pos (by simp [hm]), List.idxOf_append, if_pos hm]
      · rw [if_neg hm, if_neg (by simp [hm, e])]
end Go.Proofs.YtdigiaigbcfccaaGreatDoor

namespace Go.Proofs.YtdigiaigbcfccaaGreatDoor
open Go.RowKit Go

attribute [local go_sem] Oper.semAt_some monoUpon Yld.says

theorem byteCells_get {bs : List UInt8} {i : Nat} (h : i < bs.length) : (Lib.byteCells bs)[i]? = some (.int .u8 (bs[i].toNat : Int)) := by simp [Lib.byteCells, h]
theorem Bytes.base {B C : Nat} {W : World} {v : Value} {bs : List UInt8} (h : Bytes B W v bs) (hc : C ≤ B) : Bytes C W v bs := by
  refine ⟨h.1, h.2.imp id ?_⟩
  rintro ⟨g, cap, cur, e, h1, h2⟩
  exact ⟨g, cap, cur, e, by omega, h2⟩
theorem Bytes.nil {B : Nat} {W : World} : Bytes B W (.slice none 0 0) [] := World.ownsRow_nil _ _ _ _
theorem Bytes.keep {B : Nat} {W W' : World} {v : Value} {bs : List UInt8} (h : Bytes B W v bs) (hk : Below W.heap.size W W') : Bytes B W' v bs := World.ownsRow.kept h (grown_b none hk) (by rcases v.ownBlock with _ | _ <;> simp)
def IsBytes (B : Nat) (bs : List UInt8) (u : Value) (W : World) : Prop := Bytes B W u bs
theorem IsBytes.stable (B : Nat) (bs : List UInt8) : (Yld.any (IsBytes B bs)).stable := fun _ _ _ he h => Bytes.keep h he
theorem Bytes.convert {B : Nat} {W : World} {v : Value} {bs : List UInt8} (h : Bytes B W v bs) (h0 : 0 < bs.length) : ∃ g cap, v = .slice (some ⟨g, 0, none⟩) bs.length cap ∧ (Go.convert 128 9 v).run Tryz.prog W = .ok (.string ⟨bs.toArray⟩) W := by
  have hh := h
  rcases h.2 with ⟨_, h1⟩ | ⟨g, cap, cur, rfl, _, _, _, _, _, _⟩
  · omega
  · refine ⟨g, cap, rfl, ?_⟩
    have hc := Lib.run_convert_whole (P := Tryz.prog) W 128 5 9 Tryz.underlying128 Tryz.underlying5 Tryz.underlying9 g 0 ⟨bs.toArray⟩ (fun i hi => by
      have hi' : i < bs.length := by simpa [ByteArray.size] using hi
      have := World.ownsRow.cells hh (g := g) rfl i _ (byteCells_get hi')
      rw [Addr.add_lit] at this
      exact this) cap
    simpa [ByteArray.size] using hc

/-- The number of a text among those that were met. -/
def numK (ks : List (List UInt8)) (key : List UInt8) : Int := if key ∈ ks then (ks.idxOf key : Int) else ks.length
def addK (ks : List (List UInt8)) (key : List UInt8) : List (List UInt8) := if key ∈ ks then ks else ks ++ [key]

theorem Dict.set {W : World} {b : Nat} {ks : List (List UInt8)} (h : Dict W b ks) (B i : Nat) (v : Value) (hne : b ≠ B) : Dict (W.setCell ⟨B, i, none⟩ v) b ks := h.kept (grown_set B i W v) (by simpa using hne)
theorem grown_below2 {w w6 FW : World} {bm : Nat} (h : w.grownBy w6 (some bm)) (k : Below w.heap.size w6 FW) : w.grownBy FW (some bm) :=
  ⟨k.os.trans h.os, k.tape.trans h.tape, k.output.trans h.output, Nat.le_trans h.size k.size, fun j hj hn => (k.block j hj).trans (h.block j hj hn)⟩

def VarPost (T U : Tr) (ks : List (List UInt8)) (bm : Nat) (w : World) (e : Ending) (w' : World) : Prop :=
  e = .returned (.agg #[.int .i64 1, .int .i64 (numK ks (textT T ++ textT U)), .string ⟨#[]⟩, .slice none 0 0]) ∧ Dict w' bm (addK ks (textT T ++ textT U)) ∧ w.grownBy w' (some bm)

set_option maxRecDepth 100000 in
set_option maxHeartbeats 2000000 in
theorem variable_any (T U : Tr) (tv uv : Value) (ks : List (List UInt8)) (bm : Nat) (w : World) (hT : IsT w.heap.size w T tv) (hU : IsT w.heap.size w U uv) (hd0 : Dict w bm ks) (hks : ks.length < 1000000000) (hlen : (textT T).length + (textT U).length ≤ 1000000000)
    (htab : Lib.TabBelow Tryz.prog w.heap.size w "internal/strconv.uint64pow10" .u64 Lib.pow10Tab) :
    Calls Tryz.prog 83 #[.map (some bm), tv, uv] w (VarPost T U ks bm w) := by
  refine (callsIn_wide (n := 9)).1 ?_
  generalize hF : Fence.wide = F
  have hd : F.depth = none := by subst hF; rfl
  have hf : ∀ f, F.fn f := fun f => by subst hF; trivial
  have hro : F.round = none := by subst hF; rfl
  cases hTc : T with
  | node k n s l =>
  cases hUc : U with
  | node k' n' s' l' =>
  subst hTc hUc
  have hT' := hT
  have hU' := hU
  obtain ⟨a, c, rfl, _⟩ := hT'.open
  obtain ⟨a', c', rfl, _⟩ := hU'.open
  clear hT' hU'
  have HT := Lib.hid hT
  have HU := Lib.hid hU
  have HD := Lib.hid hd0
  clear hT hU hd0
  generalize hkey : textT (.node k n s l) ++ textT (.node k' n' s' l') = key
  have Hkey := Lib.hid hkey
  have hkl : 0 < key.length ∧ key.length ≤ 1000000000 := by
    rw [← hkey, List.length_append]
    refine ⟨?_, hlen⟩
    simp only [textT, List.length_append, numT_length]
    omega
  clear hkey
  have hB0 := below_a3 (Nat.le_refl w.heap.size) (.cells #[.int .i64 k, .int .i64 n, .string s, .slice a l.length c] 24) (.cells #[.int .i64 k', .int .i64 n', .string s', .slice a' l'.length c'] 24) (.cells #[.int .i64 0, .int .i64 0, .string ⟨#[]⟩, .slice none 0 0] 24)
  have b0 : Box (((w.alloc (.cells #[.int .i64 k, .int .i64 n, .string s, .slice a l.length c] 24)).alloc (.cells #[.int .i64 k', .int .i64 n', .string s', .slice a' l'.length c'] 24)).alloc (.cells #[.int .i64 0, .int .i64 0, .string ⟨#[]⟩, .slice none 0 0] 24)) w.heap.size #[.int .i64 k, .int .i64 n, .string s, .slice a l.length c] 24 := ((Box.at rfl).alloc _).alloc _
  have b1 : Box (((w.alloc (.cells #[.int .i64 k, .int .i64 n, .string s, .slice a l.length c] 24)).alloc (.cells #[.int .i64 k', .int .i64 n', .string s', .slice a' l'.length c'] 24)).alloc (.cells #[.int .i64 0, .int .i64 0, .string ⟨#[]⟩, .slice none 0 0] 24)) (w.heap.size + 1) #[.int .i64 k', .int .i64 n', .string s', .slice a' l'.length c'] 24 := (Box.at (by simp)).alloc _
  have b2 : Box (((w.alloc (.cells #[.int .i64 k, .int .i64 n, .string s, .slice a l.length c] 24)).alloc (.cells #[.int .i64 k', .int .i64 n', .string s', .slice a' l'.length c'] 24)).alloc (.cells #[.int .i64 0, .int .i64 0, .string ⟨#[]⟩, .slice none 0 0] 24)) (w.heap.size + 1 + 1) #[.int .i64 0, .int .i64 0, .string ⟨#[]⟩, .slice none 0 0] 24 := Box.at (by simp)
  have hd3 := HD.out.kept (grown_b none hB0) (by simp)
  have htab3 : Lib.TabBelow Tryz.prog w.heap.size (((w.alloc (.cells #[.int .i64 k, .int .i64 n, .string s, .slice a l.length c] 24)).alloc (.cells #[.int .i64 k', .int .i64 n', .string s', .slice a' l'.length c'] 24)).alloc (.cells #[.int .i64 0, .int .i64 0, .string ⟨#[]⟩, .slice none 0 0] 24)) "internal/strconv.uint64pow10" .u64 Lib.pow10Tab := htab.on hB0
  have hs3 : (((w.alloc (.cells #[.int .i64 k, .int .i64 n, .string s, .slice a l.length c] 24)).alloc (.cells #[.int .i64 k', .int .i64 n', .string s', .slice a' l'.length c'] 24)).alloc (.cells #[.int .i64 0, .int .i64 0, .string ⟨#[]⟩, .slice none 0 0] 24)).heap.size = w.heap.size + 3 := by simp
  refine callsIn_of_wp Tryz.func83 rfl (hf _) ?_ hro
  simp only [Tryz.ntmps83, List.size_toArray, List.length_cons, List.length_nil, Nat.reduceAdd, Nat.reduceSub, Array.replicate_succ, Array.replicate_zero, List.push_toArray, List.append_toArray, List.nil_append, List.cons_append]
  gi_wp2_with fail
  generalize (((w.alloc (.cells #[.int .i64 k, .int .i64 n, .string s, .slice a l.length c] 24)).alloc (.cells #[.int .i64 k', .int .i64 n', .string s', .slice a' l'.length c'] 24)).alloc (.cells #[.int .i64 0, .int .i64 0, .string ⟨#[]⟩, .slice none 0 0] 24)) = W3 at *
  have t0 := b0.cell 0
  have t1 := b0.cell 1
  have t2 := b0.cell 2
  have t3 := b0.cell 3
  have u0 := b1.cell 0
  have u1 := b1.cell 1
  have u2 := b1.cell 2
  have u3 := b1.cell 3
  simp only [List.getElem?_toArray, List.getElem?_cons_succ, List.getElem?_cons_zero] at t0 t1 t2 t3 u0 u1 u2 u3
  have v0 : w.heap.size < W3.heap.size := by omega
  have v1 : w.heap.size + 1 < W3.heap.size := by omega
  refine wpIn_region_mono_tail 3 [.det (.agg #[.int .i64 k, .int .i64 n, .string s, .slice a l.length c]), .any (IsBytes W3.heap.size (textT (.node k n s l))), .det (.agg #[.int .i64 k', .int .i64 n', .string s', .slice a' l'.length c'])] hf hd (fun k f args w R h => callsIn_of_calls hF h) (by kernel_rfl) (by kernel_rfl) ?_ ?_
  · intro y hy
    simp only [List.mem_cons, List.not_mem_nil, or_false] at hy
    rcases hy with rfl | rfl | rfl <;> first | trivial | exact IsBytes.stable _ _
  simp only [List.take_succ_cons, List.take_zero, List.drop_succ_cons, List.drop_zero]
  refine wpM_step (fun K hK => ?_)
  go_simp
  apply And.intro
  · intro w' hC _
    have q1 := hC.old.1
    have hbs := hC.old.2.2
    clear hC
    go_simp
    exact Ext.refl _
  refine nextM_det (hK _ _ ?_)
  clear hK K
  refine wpM_step (fun K hK => ?_)
  go_simp
  apply And.intro
  · intro w' hC _
    go_simp
    refine ⟨Ext.refl _, (appendText_any w'.heap.size w.heap.size (by have := Below.size hC; omega) (.node k n s l) _ _ [] w' ((HT.out.below hB0).below (Below.mono hC (by omega))) Bytes.nil (Nat.le_refl _) (by simp; omega) (fun w'' h => htab3 w'' ((Below.mono hC (by omega)).trans (Below.mono h (by have := Below.size hC; omega))))).mono ?_⟩
    rintro e w2 ⟨x, rfl, hx, hb, _⟩
    exact ⟨x, rfl, hb, Bytes.base (by simpa using hx) (by have := Below.size hC; omega)⟩
  refine nextM_any (fun x => hK _ _ ?_)
  clear hK K
  refine wpM_step (fun K hK => ?_)
  go_simp
  apply And.intro
  · intro w' hC _
    have q1 := hC.old.1
    have hbs := hC.old.2.2
    clear hC
    go_simp
    exact Ext.refl _
  refine nextM_det (hK _ _ ?_)
  clear hK K
  refine wpM_nil ?_
  intro w4 hC hE
  have hx : IsBytes W3.heap.size (textT (.node k n s l)) x w4 := hE 1 x rfl
  clear hE
  have hs4 := Below.size hC
  gi_wp2_with fail
  refine CallsIn.mono (callsIn_of_calls hF (appendText_any W3.heap.size w.heap.size (by omega) (.node k' n' s' l') _ _ (textT (.node k n s l)) w4 ((HU.out.below hB0).below (Below.mono hC (by omega))) hx hs4 hlen (fun w'' h => htab3 w'' ((Below.mono hC (by omega)).trans (Below.mono h (by omega)))))) ?_
  rintro e w5 ⟨y, rfl, hy, hB5, _⟩
  rw [Hkey.out] at hy
  obtain ⟨g, cap, hyv, hconv⟩ := hy.convert hkl.1
  subst hyv
  have hB6 : Below W3.heap.size W3 w5 := Below.trans hC hB5
  have hd5 := hd3.kept (grown_b none hB6) (by simp)
  have b5 := Box.keep hB6 b2
  have hks2 : (⟨key.toArray⟩ : ByteArray).data.toList = key := by simp
  have hkm : (⟨key.toArray⟩ : ByteArray).size ≤ maxLen := by simp only [ByteArray.size, List.size_toArray]; unfold maxLen; omega
  have hlook := hd5.look ⟨key.toArray⟩ hkm
  have hput := hd5.put hks ⟨key.toArray⟩ hkm
  rw [hks2] at hlook hput
  have hlen5 := fun ty => hd5.len ty
  have HH := Lib.hid (And.intro hd5 (hB0.trans (hB6.mono (by omega))))
  clear hC hB5 hB6 hd3 b0 b1 b2 hx hy t0 t1 t2 t3 u0 u1 u2 u3
  by_cases hmem : key ∈ ks
  · rw [if_pos hmem, decide_eq_true hmem] at hlook
    have HM := Lib.hid hmem
    have hnum : numK ks key = (ks.idxOf key : Int) := by rw [numK, if_pos hmem]
    have hadd : addK ks key = ks := by rw [addK, if_pos hmem]
    have hneb : w.heap.size + 1 + 1 ≠ bm := HH.out.1.not_box b5
    clear hput hmem
    have g0 := b5.frozen 0
    have g1 := b5.frozen 1
    have g2 := b5.frozen 2
    have g3 := b5.frozen 3
    have r0 := b5.cell 0
    have r1 := b5.cell 1
    have r2 := b5.cell 2
    have r3 := b5.cell 3
    have lr := b5.lt
    simp only [List.getElem?_toArray, List.getElem?_cons_succ, List.getElem?_cons_zero] at r0 r1 r2 r3
    gi_wp2_with fail
    have z := (((b5.set 0 (.int .i64 1)).set 1 (.int .i64 (ks.idxOf key : Int))).set 2 (.string ⟨#[]⟩)).set 3 (.slice none 0 0)
    have y0 := z.cell 0
    have y1 := z.cell 1
    have y2 := z.cell 2
    have y3 := z.cell 3
    have zB := ((((Below.refl w.heap.size w5).setCell (p := ⟨w.heap.size + 1 + 1, 0, none⟩) (by simp; omega) (.int .i64 1)).setCell (p := ⟨w.heap.size + 1 + 1, 1, none⟩) (by simp; omega) (.int .i64 (ks.idxOf key : Int))).setCell (p := ⟨w.heap.size + 1 + 1, 2, none⟩) (by simp; omega) (.string ⟨#[]⟩)).setCell (p := ⟨w.heap.size + 1 + 1, 3, none⟩) (by simp; omega) (.slice none 0 0)
    have zG := grown_below2 (grown_b (some bm) HH.out.2) zB
    have zD := ((((HH.out.1).set (w.heap.size + 1 + 1) 0 (.int .i64 1) (Ne.symm hneb)).set (w.heap.size + 1 + 1) 1 (.int .i64 (ks.idxOf key : Int)) (Ne.symm hneb)).set (w.heap.size + 1 + 1) 2 (.string ⟨#[]⟩) (Ne.symm hneb)).set (w.heap.size + 1 + 1) 3 (.slice none 0 0) (Ne.symm hneb)
    clear z zB
    generalize (((((w5.setCell ⟨w.heap.size + 1 + 1, 0, none⟩ (.int .i64 1)).setCell ⟨w.heap.size + 1 + 1, 1, none⟩ (.int .i64 (ks.idxOf key : Int))).setCell ⟨w.heap.size + 1 + 1, 2, none⟩ (.string ⟨#[]⟩)).setCell ⟨w.heap.size + 1 + 1, 3, none⟩ (.slice none 0 0))) = FW at *
    simp at y0 y1 y2 y3
    refine bodyPost_ret (v := .agg #[.int .i64 1, .int .i64 (ks.idxOf key : Int), .string ⟨#[]⟩, .slice none 0 0]) (by simp [results, Tryz.results83, go_sem, y0, y1, y2, y3]) rfl ⟨?_, ?_, zG⟩
    · rw [Hkey.out, hnum]
    · rw [Hkey.out, hadd]
      exact zD
  · rw [if_neg hmem, decide_eq_false hmem] at hlook
    have hnum : numK ks key = (ks.length : Int) := by rw [numK, if_neg hmem]
    have hadd : addK ks key = ks ++ [key] := by rw [addK, if_neg hmem]
    obtain ⟨w6, hrun, hd6, hg6⟩ := hput hmem
    have hneb : w.heap.size + 1 + 1 ≠ bm := HH.out.1.not_box b5
    have b6 : Box w6 (w.heap.size + 1 + 1) #[.int .i64 0, .int .i64 0, .string ⟨#[]⟩, .slice none 0 0] 24 := (hg6.block _ b5.lt (by simpa using hneb)).trans b5
    have HG := Lib.hid (And.intro hd6 hg6)
    clear hput hmem hd6 hg6 b5
    have g0 := b6.frozen 0
    have g1 := b6.frozen 1
    have g2 := b6.frozen 2
    have g3 := b6.frozen 3
    have r0 := b6.cell 0
    have r1 := b6.cell 1
    have r2 := b6.cell 2
    have r3 := b6.cell 3
    have lr := b6.lt
    simp only [List.getElem?_toArray, List.getElem?_cons_succ, List.getElem?_cons_zero] at r0 r1 r2 r3
    gi_wp2_with fail
    have z := (((b6.set 0 (.int .i64 1)).set 1 (.int .i64 (ks.length : Int))).set 2 (.string ⟨#[]⟩)).set 3 (.slice none 0 0)
    have y0 := z.cell 0
    have y1 := z.cell 1
    have y2 := z.cell 2
    have y3 := z.cell 3
    have zB := ((((Below.refl w.heap.size w6).setCell (p := ⟨w.heap.size + 1 + 1, 0, none⟩) (by simp; omega) (.int .i64 1)).setCell (p := ⟨w.heap.size + 1 + 1, 1, none⟩) (by simp; omega) (.int .i64 (ks.length : Int))).setCell (p := ⟨w.heap.size + 1 + 1, 2, none⟩) (by simp; omega) (.string ⟨#[]⟩)).setCell (p := ⟨w.heap.size + 1 + 1, 3, none⟩) (by simp; omega) (.slice none 0 0)
    have zG := grown_below2 (grown_trans (grown_b (some bm) HH.out.2) HG.out.2) zB
    have zD := ((((HG.out.1).set (w.heap.size + 1 + 1) 0 (.int .i64 1) (Ne.symm hneb)).set (w.heap.size + 1 + 1) 1 (.int .i64 (ks.length : Int)) (Ne.symm hneb)).set (w.heap.size + 1 + 1) 2 (.string ⟨#[]⟩) (Ne.symm hneb)).set (w.heap.size + 1 + 1) 3 (.slice none 0 0) (Ne.symm hneb)
    clear z zB
    generalize (((((w6.setCell ⟨w.heap.size + 1 + 1, 0, none⟩ (.int .i64 1)).setCell ⟨w.heap.size + 1 + 1, 1, none⟩ (.int .i64 (ks.length : Int))).setCell ⟨w.heap.size + 1 + 1, 2, none⟩ (.string ⟨#[]⟩)).setCell ⟨w.heap.size + 1 + 1, 3, none⟩ (.slice none 0 0))) = FW at *
    simp at y0 y1 y2 y3
    refine bodyPost_ret (v := .agg #[.int .i64 1, .int .i64 (ks.length : Int), .string ⟨#[]⟩, .slice none 0 0]) (by simp [results, Tryz.results83, go_sem, y0, y1, y2, y3]) rfl ⟨?_, ?_, zG⟩
    · rw [Hkey.out, hnum]
    · rw [Hkey.out, hadd]
      exact zD
end Go.Proofs.YtdigiaigbcfccaaGreatDoor
