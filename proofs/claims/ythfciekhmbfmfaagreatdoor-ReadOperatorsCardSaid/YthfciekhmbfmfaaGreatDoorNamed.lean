/- Names, and what stands in quotes, as the lexer cuts them. -/
import Derived.Test.YthfciekhmbfmfaaGreatDoorBytes
import Derived.Test.YthfciekhmbfmfaaGreatDoorUnq
import Derived.Deep.AppendLies
import Derived.Deep.RegionLaw
namespace Go.Proofs.YthfciekhmbfmfaaGreatDoor
open Go.RowKit Go

/-- A run that is a name; or an error is thrown. -/
def NamedQ (l : List UInt8) (a : Nat) (w : World) (e : Ending) (w' : World) : Prop := (if l.length ≤ 32 then e = .returned (.string ⟨l.toArray⟩) else e = thrown a 20) ∧ Below w.heap.size w w'
set_option maxRecDepth 100000 in
set_option maxHeartbeats 2000000 in
theorem namedName_any (B : Nat) (s : ByteArray) (a : Nat) (pv : Value) (w : World) (hB : Box w B #[.string s, .int .i64 a, pv] 129) (ha : a ≤ s.size) (hs : s.size ≤ 1000000) :
    Calls Tryz.prog 184 #[.pointer (some ⟨B, 0, none⟩), .func (.func 178) #[] #[]] w (NamedQ (runL naB (s.data.toList.drop a)) a w) := by
  have hR := runNamed_any B s a pv w hB ha hs
  have hl : (runL naB (s.data.toList.drop a)).length ≤ 1000000 := by
    have h1 := (List.takeWhile_sublist (l := s.data.toList.drop a) naB).length_le
    have h2 : (s.data.toList.drop a).length = s.size - a := by simp
    simp only [runL]
    omega
  generalize runL naB (s.data.toList.drop a) = L at *
  have HR := Lib.hid (And.intro hR hB)
  clear hR hB
  go_enter Tryz.func184, Tryz.ntmps184
  go_wp2_with fail
  refine (HR.out.1).mono ?_
  rintro e w' ⟨rfl, hB1⟩
  have HB1 := Lib.hid hB1
  have HJ := Lib.hid (fun w => reject_any B s a pv w)
  have HBx := Lib.hid (Box.keep hB1 HR.out.2)
  clear hB1
  by_cases h32 : L.length ≤ 32
  · have d : (L.length : Int) ≤ 32 := by omega
    have HQ : Hid (NamedQ L a w = fun e w' => e = .returned (.string ⟨L.toArray⟩) ∧ Below w.heap.size w w') := by unfold NamedQ; simp only [Hid, if_pos h32]
    clear h32
    go_wp2_with fail
    go_ret
    rw [HQ.out]
    exact ⟨rfl, HB1.out⟩
  · have d : ¬ (L.length : Int) ≤ 32 := by omega
    have HQ : Hid (NamedQ L a w = fun e w' => e = thrown a 20 ∧ Below w.heap.size w w') := by unfold NamedQ; simp only [Hid, if_neg h32]
    clear h32
    go_wp2_with fail
    refine (HJ.out _ HBx.out).mono ?_
    rintro e w2 ⟨rfl, rfl⟩
    refine And.intro rfl ?_
    rw [HQ.out]
    exact ⟨rfl, HB1.out⟩
set_option maxRecDepth 100000 in
set_option maxHeartbeats 2000000 in
theorem namedSymbol_any (B : Nat) (s : ByteArray) (a : Nat) (pv : Value) (w : World) (hB : Box w B #[.string s, .int .i64 a, pv] 129) (ha : a ≤ s.size) (hs : s.size ≤ 1000000) :
    Calls Tryz.prog 184 #[.pointer (some ⟨B, 0, none⟩), .func (.func 141) #[] #[]] w (NamedQ (runL syB (s.data.toList.drop a)) a w) := by
  have hR := runSymbol_any B s a pv w hB ha hs
  have hl : (runL syB (s.data.toList.drop a)).length ≤ 1000000 := by
    have h1 := (List.takeWhile_sublist (l := s.data.toList.drop a) syB).length_le
    have h2 : (s.data.toList.drop a).length = s.size - a := by simp
    simp only [runL]
    omega
  generalize runL syB (s.data.toList.drop a) = L at *
  have HR := Lib.hid (And.intro hR hB)
  clear hR hB
  go_enter Tryz.func184, Tryz.ntmps184
  go_wp2_with fail
  refine (HR.out.1).mono ?_
  rintro e w' ⟨rfl, hB1⟩
  have HB1 := Lib.hid hB1
  have HJ := Lib.hid (fun w => reject_any B s a pv w)
  have HBx := Lib.hid (Box.keep hB1 HR.out.2)
  clear hB1
  by_cases h32 : L.length ≤ 32
  · have d : (L.length : Int) ≤ 32 := by omega
    have HQ : Hid (NamedQ L a w = fun e w' => e = .returned (.string ⟨L.toArray⟩) ∧ Below w.heap.size w w') := by unfold NamedQ; simp only [Hid, if_pos h32]
    clear h32
    go_wp2_with fail
    go_ret
    rw [HQ.out]
    exact ⟨rfl, HB1.out⟩
  · have d : ¬ (L.length : Int) ≤ 32 := by omega
    have HQ : Hid (NamedQ L a w = fun e w' => e = thrown a 20 ∧ Below w.heap.size w w') := by unfold NamedQ; simp only [Hid, if_neg h32]
    clear h32
    go_wp2_with fail
    refine (HJ.out _ HBx.out).mono ?_
    rintro e w2 ⟨rfl, rfl⟩
    refine And.intro rfl ?_
    rw [HQ.out]
    exact ⟨rfl, HB1.out⟩
end Go.Proofs.YthfciekhmbfmfaaGreatDoor

/- What stands in quotes, as the lexer cuts it. -/
namespace Go.Proofs.YthfciekhmbfmfaaGreatDoor
open Go.RowKit Go

theorem unqF_le (q : UInt8) : ∀ l : List UInt8, (unqF q l).2 ≤ l.length := by
  intro l
  rw [unqF.eq_def]
  rcases l with _ | ⟨c, _ | ⟨d, _ | ⟨x, _ | ⟨y, r⟩⟩⟩⟩ <;> (repeat' split) <;> simp_all <;> (repeat' split) <;> simp <;> omega
/-- What is cut of a text in quotes. -/
def QuotQ (tot : Nat) (x : Option (List UInt8 × List UInt8)) (a : Nat) (w : World) (e : Ending) (w' : World) : Prop :=
  (match x with
    | some (o, r) => e = .returned (.tuple #[.string ⟨o.toArray⟩, .int .i64 ((tot - r.length : Nat) : Int)])
    | none => e = thrown a 20) ∧ Below w.heap.size w w'
theorem ext_tail (s : ByteArray) (k : Nat) (h : k < s.size) : (s.extract k s.size).data.toList = s[k] :: s.data.toList.drop (k + 1) := by
  have hl : k < s.data.toList.length := by simpa using h
  have hg : s.data.toList[k] = s[k] := by simp; rfl
  rw [extract_list, List.take_of_length_le (by simp), List.drop_eq_getElem_cons hl, hg]
theorem drop_cons (s : ByteArray) (k : Nat) (h : k < s.size) : s.data.toList.drop k = s[k] :: s.data.toList.drop (k + 1) := by
  have hl : k < s.data.toList.length := by simpa using h
  have hg : s.data.toList[k] = s[k] := by simp; rfl
  rw [List.drop_eq_getElem_cons hl, hg]
set_option maxRecDepth 100000 in
set_option maxHeartbeats 4000000 in
theorem quoted_any (B : Nat) (s : ByteArray) (a : Nat) (pv : Value) (w : World) (hB : Box w B #[.string s, .int .i64 a, pv] 129) (ha : a < s.size) (hs : s.size ≤ 1000000) :
    Calls Tryz.prog 188 #[.pointer (some ⟨B, 0, none⟩)] w (QuotQ s.size (quotL s[a] (s.data.toList.drop (a + 1))) a w) := by
  obtain ⟨i0, hi, hz0, hz1, hz2⟩ := info_parts infoU8
  have c0 := hB.cell 0
  have c1 := hB.cell 1
  have l0 := hB.lt
  simp only [List.getElem?_toArray, List.getElem?_cons_succ, List.getElem?_cons_zero] at c0 c1
  have HB := Lib.hid hB
  obtain ⟨q, hq⟩ : ∃ q, s[a] = q := ⟨_, rfl⟩
  rw [hq]
  have HJ := Lib.hid (fun w => reject_any B s a pv w)
  clear hB
  go_enter Tryz.func188, Tryz.ntmps188
  go_wp2_with fail
  go_quiet (fail)
  go_wp2_with fail
  generalize hD : quotL q (s.data.toList.drop (a + 1)) = D at *
  have HD := Lib.hid hD
  clear hD
  go_loopw [5, 6] (fun ov iv wr => ∃ (k : Nat) (v : Value) (A : List UInt8), a + 1 ≤ k ∧ k ≤ s.size ∧ iv = .int .i64 k ∧ ov = v ∧ A.length ≤ k ∧ Hid (D = (quotL q (s.data.toList.drop k)).map fun x => (A ++ x.1, x.2)) ∧ BytR w A v wr) (fun _ iv _ => s.size - (intOf iv).toNat)
  case atStart => exact ⟨a + 1, _, [], Nat.le_refl _, ha, by go_num, rfl, Nat.zero_le _, by rw [Hid, HD.out]; simp, (BytR.nil w).up (dn_below _ _)⟩
  case round =>
    obtain ⟨k, v, A, hak, hk, rfl, rfl, hA, hDA, hR⟩ := hrel
    have hsz := hR.len
    have hBw := Box.keep hR.below HB.out
    have c0 := hBw.cell 0
    have c1 := hBw.cell 1
    have l0 := hBw.lt
    simp only [List.getElem?_toArray, List.getElem?_cons_succ, List.getElem?_cons_zero] at c0 c1
    have HR := Lib.hid hR
    have HBw := Lib.hid hBw
    clear hR hBw
    by_cases hlt : k < s.size
    · have hdc := drop_cons s k hlt
      by_cases he : s[k] = q
      · have HV : Hid (D = some (A, s.data.toList.drop (k + 1))) := by
          rw [Hid, hDA.out, hdc, he, quotL_end]
          simp
        have hne : ((s[k].toNat : Int) != (q.toNat : Int)) = false := by rw [he]; simp
        have hcv := HR.out.str
        have HQ : Hid (QuotQ s.size D a w = fun e w' => e = .returned (.tuple #[.string ⟨A.toArray⟩, .int .i64 ((k : Int) + 1)]) ∧ Below w.heap.size w w') := by
          rw [Hid, HV.out]
          unfold QuotQ
          simp only [List.length_drop]
          rw [show s.size - (s.data.toList.length - (k + 1)) = k + 1 by simp; omega]
          rfl
        have hks : ¬ ((k : Int) = (s.size : Int)) := by omega
        clear hdc hDA
        go_wp2_with fail
        go_ret2
        rw [HQ.out]
        exact ⟨rfl, HR.out.below⟩
      · have hne : ((s[k].toNat : Int) != (q.toNat : Int)) = true := by have h := ne_c he; simpa using h
        have hl := ext_tail s k hlt
        have hxs : (s.extract k s.size).size ≤ 1000000 := by simp; omega
        have hU := fun w => unquote_any (s.extract k s.size) q s[k] (s.data.toList.drop (k + 1)) hl hxs w
        have hnl := unqF_le q (s[k] :: s.data.toList.drop (k + 1))
        have hln : (s[k] :: s.data.toList.drop (k + 1)).length = s.size - k := by simp; omega
        have hq0 : (unqF q (s[k] :: s.data.toList.drop (k + 1))).2 = 0 → quotL q (s[k] :: s.data.toList.drop (k + 1)) = none := fun h => quotL_none he h
        have hqn : (unqF q (s[k] :: s.data.toList.drop (k + 1))).2 ≠ 0 → quotL q (s[k] :: s.data.toList.drop (k + 1)) = (quotL q ((s[k] :: s.data.toList.drop (k + 1)).drop (unqF q (s[k] :: s.data.toList.drop (k + 1))).2)).map fun x => ((unqF q (s[k] :: s.data.toList.drop (k + 1))).1 :: x.1, x.2) := fun h => quotL_step he h
        rw [hln] at hnl
        generalize unqF q (s[k] :: s.data.toList.drop (k + 1)) = x at *
        obtain ⟨b, n⟩ := x
        simp only at hnl hq0 hqn
        have hkn : k + n ≤ s.size := by omega
        by_cases hn0 : n = 0
        · have HV : Hid (D = none) := by
            rw [Hid, hDA.out, hdc, hq0 hn0]
            rfl
          have HQ : Hid (QuotQ s.size D a w = fun e w' => e = thrown a 20 ∧ Below w.heap.size w w') := by
            rw [Hid, HV.out]
            rfl
          have HU := Lib.hid hU
          subst hn0
          clear hU hdc hDA hl hxs hnl hln hq0 hqn he
          go_wp2_with fail
          refine (HU.out _).mono ?_
          rintro e w1 ⟨rfl, hB1⟩
          have HB1 := Lib.hid hB1
          have HBx := Lib.hid (Box.keep hB1 HBw.out)
          clear hB1
          go_wp2_with fail
          refine (HJ.out _ HBx.out).mono ?_
          rintro e w2 ⟨rfl, rfl⟩
          refine And.intro rfl ?_
          rw [HQ.out]
          exact ⟨rfl, (HR.out.up HB1.out).below⟩
        · have HV : Hid (D = (quotL q (s.data.toList.drop (k + n))).map fun x => (A ++ [b] ++ x.1, x.2)) := by
            rw [Hid, hDA.out, hdc, hqn hn0, ← hdc, List.drop_drop, Option.map_map]
            congr 1
            funext x
            simp
          have HU := Lib.hid hU
          have hnz : ((n : Int) == 0) = false := by simpa using hn0
          have hn1 : 1 ≤ n := by omega
          clear hU hdc hDA hl hxs hnl hln hq0 hqn he hn0
          go_wp2_with fail
          refine (HU.out _).mono ?_
          rintro e w1 ⟨rfl, hB1⟩
          have hR1 := HR.out.up hB1
          have hsz1 := hR1.len
          have HR1 := Lib.hid hR1
          have hBx := Box.keep hB1 HBw.out
          have hlx := hBx.lt
          have HBx := Lib.hid hBx
          have hl63 : A.length ≤ 1000000 := by omega
          clear hB1 hR1 hBx
          go_wp2_with (at_builtin; refine wpList_append_own_at _ rfl _ _ 62 rfl w.heap.size 5 i0 (.int .u8 0) 1 1 Tryz.underlying62 hi hz0 hz1 hz2 rfl (by decide) _ _ _ rfl (World.ownsRow.alloc HR1.out.own _) ⟨w1.heap.size, 0, none⟩ 1 1 [.int .u8 (b.toNat : Int)] rfl rfl (cell_one_new _ _ _) (fun u hu => by simp only [List.mem_cons, List.not_mem_nil, or_false] at hu; rcases hu with rfl <;> rfl) (by unfold maxLen; omega) (by omega) (by simp; omega) ?_)
          intro v2 w2 hown2 hgrow2 _ _
          have hB2 : BytR w (A ++ [b]) v2 w2 := BytR.push (k := [b]) HR1.out hown2 hgrow2
          have H2 := Lib.hid hB2
          clear hB2 hown2 hgrow2
          go_wp2_with fail
          go_roundw
          case rel => exact ⟨k + n, v2, A ++ [b], by omega, hkn, by go_num, rfl, by simp; omega, HV, H2.out⟩
          case measure => simp [intOf]; omega
    · have hkk : k = s.size := by omega
      subst hkk
      have HV : Hid (D = none) := by
        rw [Hid, hDA.out, List.drop_of_length_le (by simp), quotL_nil]
        rfl
      have HQ : Hid (QuotQ s.size D a w = fun e w' => e = thrown a 20 ∧ Below w.heap.size w w') := by
        rw [Hid, HV.out]
        rfl
      clear hDA
      go_wp2_with fail
      refine (HJ.out _ HBw.out).mono ?_
      rintro e w2 ⟨rfl, rfl⟩
      refine And.intro rfl ?_
      rw [HQ.out]
      exact ⟨rfl, HR.out.below⟩
end Go.Proofs.YthfciekhmbfmfaaGreatDoor

/- The lexer's state; a lexeme is added. -/
namespace Go.Proofs.YthfciekhmbfmfaaGreatDoor
open Go.RowKit Go

/-- A lexeme as a value. -/
def tokV (t : Tok) : Value :=
  match t.k with
  | .name => .iface 134 (.string ⟨t.s.toArray⟩)
  | .quoted => .iface 135 (.string ⟨t.s.toArray⟩)
  | .var => .iface 136 (.string ⟨t.s.toArray⟩)
  | .int => .iface 137 (.int .i64 (t.n : Int))
  | .str => .iface 138 (.string ⟨t.s.toArray⟩)
  | .sign => .iface 139 (.string ⟨t.s.toArray⟩)
  | .fin => .iface 140 (.string ⟨t.s.toArray⟩)
theorem tokV_iface (t : Tok) : ∃ T u, tokV t = .iface T u := by unfold tokV; cases t.k <;> exact ⟨_, _, rfl⟩
theorem tokV_one (t : Tok) : (tokV t).oneCell' = true := by unfold tokV; cases t.k <;> rfl
/-- A piece as three cells. -/
def pcV (x : Lx) : List Value := [tokV x.t, .int .i64 (x.a : Int), .int .i64 (x.e : Int)]
/-- The lexer in its box B, at a byte, with the pieces that were cut. -/
structure LxSt (w : World) (B : Nat) (s : ByteArray) (a : Nat) (xs : List Lx) (pv : Value) (W : World) : Prop where
  box : Box W B #[.string s, .int .i64 (a : Int), pv] 129
  row : OwnR 78 3 pcV (B + 1) xs pv W
  below : Below w.heap.size w W
  hB : w.heap.size ≤ B
theorem LxSt.up {w : World} {B : Nat} {s : ByteArray} {a : Nat} {xs : List Lx} {pv : Value} {W W' : World} (h : LxSt w B s a xs pv W) (hB : Below W.heap.size W W') : LxSt w B s a xs pv W' :=
  ⟨Box.keep hB h.box, h.row.up hB, h.below.trans (hB.mono h.below.size), h.hB⟩
/-- What a step of the lexer leaves as it was. -/
structure LxTo (B : Nat) (pv pv' : Value) (W W' : World) : Prop where
  size : W.heap.size ≤ W'.heap.size
  block : ∀ k, k < W.heap.size → k ≠ B → some k ≠ pv.ownBlock → W'.heap[k]? = W.heap[k]?
  own : ∀ b, pv'.ownBlock = some b → pv.ownBlock = some b ∨ W.heap.size ≤ b
theorem LxTo.up {B : Nat} {pv : Value} {W W' : World} (h : Below W.heap.size W W') : LxTo B pv pv W W' := ⟨h.size, fun k hk _ _ => h.block k hk, fun _ h => .inl h⟩
theorem LxTo.trans {B : Nat} {p q r : Value} {a b c : World} (h : LxTo B p q a b) (k : LxTo B q r b c) : LxTo B p r a c :=
  ⟨Nat.le_trans h.size k.size, fun i hi h1 h2 => (k.block i (Nat.lt_of_lt_of_le hi h.size) h1 (fun e => by rcases h.own i e.symm with q | q; exact h2 q.symm; omega)).trans (h.block i hi h1 h2), fun i hi => by
    rcases k.own i hi with q | q
    · exact h.own i q
    · exact .inr (Nat.le_trans h.size q)⟩
theorem LxTo.box {B : Nat} {pv pv' : Value} {W W' : World} (h : LxTo B pv pv' W W') {R : Nat} {cs : Array Value} {t : TypeId} (hR : Box W R cs t) (h1 : R ≠ B) (h2 : some R ≠ pv.ownBlock) : Box W' R cs t := (h.block R hR.lt h1 h2).trans hR
theorem infoPiece : (Tryz.prog.info? 78).map (fun i => (i.zero, i.size, i.bytes)) = some (some (.agg #[.nilIface, .int .i64 0, .int .i64 0]), 3, 32) := by kernel_rfl
theorem fz_alloc {W : World} {a : Addr} {o : Obj} (h : a.block < W.heap.size) (f : W.frozen? a = false) : (W.alloc o).frozen? a = false :=
  (World.frozen?_of_block (Below.heap_alloc W o a.block h)).trans f
theorem fz_alloc' {W : World} {a : Addr} {o : Obj} (h : a.block < W.heap.size) (f : W.frozen? a = false) : (W.alloc o).drew.frozen? a = false := fz_alloc h f
theorem LxSt.setAt {w : World} {B : Nat} {s : ByteArray} {a : Nat} {xs : List Lx} {pv : Value} {W : World} (h : LxSt w B s a xs pv W) (n : Nat) : LxSt w B s n xs pv (W.setCell ⟨B, 1, none⟩ (.int .i64 (n : Int))) :=
  ⟨h.box.set _ _, h.row.set (by omega) _ _, h.below.trans (gr_low (gr_set B 1 W _) h.below.size (fun g hg => by cases hg; exact h.hB)), h.hB⟩
theorem LxSt.far {w : World} {B : Nat} {s : ByteArray} {a : Nat} {xs : List Lx} {pv : Value} {W : World} (h : LxSt w B s a xs pv W) {R : Nat} (h1 : R ≠ B) (h2 : some R ≠ pv.ownBlock) (h3 : w.heap.size ≤ R) (v : Value) : LxSt w B s a xs pv (W.setCell ⟨R, 0, none⟩ v) := by
  refine ⟨h.box.other (Ne.symm h1) _ _, ⟨h.row.own.kept (gr_set R 0 W v) ?_⟩, h.below.trans (gr_low (gr_set R 0 W _) h.below.size (fun g hg => by cases hg; exact h3)), h.hB⟩
  rcases hv : pv.ownBlock with _ | j
  · exact .inl rfl
  · exact .inr fun e => h2 (by rw [hv]; exact e.symm)
/-- A piece was appended, and the list stored. -/
theorem add_mid {w W2 w1 : World} {B R : Nat} {s : ByteArray} {a : Nat} {xs : List Lx} {pv v3 : Value} {x : Lx} {o : Obj} {rc : Array Value} {rt : TypeId} (h : LxSt w B s a xs pv W2) (hR : Box W2 R rc rt) (hRB : R ≠ B) (hRo : some R ≠ pv.ownBlock)
    (hown : w1.ownsRow (B + 1) 78 3 v3 (xs.length + 1) (xs.flatMap pcV ++ pcV x)) (hg : (W2.alloc o).grownBy w1 pv.ownBlock) : LxSt w B s a (xs ++ [x]) v3 (w1.setCell ⟨B, 2, none⟩ v3) ∧ Box (w1.setCell ⟨B, 2, none⟩ v3) R rc rt ∧ (W2.heap.size ≤ (w1.setCell ⟨B, 2, none⟩ v3).heap.size ∧ ∀ k, k < W2.heap.size → k ≠ B → some k ≠ pv.ownBlock → (w1.setCell ⟨B, 2, none⟩ v3).heap[k]? = W2.heap[k]?) := by
  have hne : some B ≠ pv.ownBlock := fun e => by have := (h.row.own.lt B e.symm).1; omega
  have hb1 : Box w1 B #[.string s, .int .i64 (a : Int), pv] 129 := (hg.block B (by have := h.box.lt; simp; omega) hne).trans ((Below.heap_alloc W2 o B h.box.lt).trans h.box)
  have hr1 : Box w1 R rc rt := (hg.block R (by have := hR.lt; simp; omega) hRo).trans ((Below.heap_alloc W2 o R hR.lt).trans hR)
  have hl : Below w.heap.size w w1 := (h.below.alloc h.below.size o).trans (gr_low hg (by have := h.below.size; simp; omega) (fun g hgg => by have := (h.row.own.lt g hgg).1; have := h.hB; omega))
  exact ⟨⟨hb1.set _ _, (OwnR.push x hown).set (by omega) _ _, hl.trans (gr_low (gr_set B 2 w1 _) hl.size (fun g hgg => by cases hgg; exact h.hB)), h.hB⟩, hr1.other hRB _ _, by have := hg.size; simp at this ⊢; omega, fun k hk h1 h2 => (Below.heap_setCell w1 ⟨B, 2, none⟩ v3 k h1).trans ((hg.block k (by simp; omega) h2).trans (Below.heap_alloc W2 o k hk))⟩
set_option maxRecDepth 100000 in
set_option maxHeartbeats 4000000 in
theorem add_any (w : World) (B : Nat) (s : ByteArray) (a n : Nat) (xs : List Lx) (t : Tok) (pv : Value) (W : World) (h : LxSt w B s a xs pv W) (hx : xs.length ≤ 100000) :
    Calls Tryz.prog 185 #[.pointer (some ⟨B, 0, none⟩), tokV t, .int .i64 (n : Int)] W fun e W' => e = .returned (.agg #[.func (.func 98) #[] #[]]) ∧ ∃ pv', LxSt w B s n (xs ++ [⟨t, a, n⟩]) pv' W' ∧ LxTo B pv pv' W W' := by
  obtain ⟨i0, hi, hz0, hz1, hz2⟩ := info_parts infoPiece
  have c1 := h.box.cell 1
  have c2 := h.box.cell 2
  have l0 := h.box.lt
  simp only [List.getElem?_toArray, List.getElem?_cons_succ, List.getElem?_cons_zero] at c1 c2
  have hpc : pcV ⟨t, a, n⟩ = [tokV t, .int .i64 (a : Int), .int .i64 (n : Int)] := rfl
  obtain ⟨T, u, hTu⟩ := tokV_iface t
  rw [hTu] at hpc ⊢
  have HS := Lib.hid h
  have n1 := World.new_ne W _ c1
  have n2 := World.new_ne W _ c2
  clear h
  clear hTu
  have HPC := Lib.hid hpc
  clear hpc
  go_enter Tryz.func185, Tryz.ntmps185
  go_wp2_with fail
  have hS2 := HS.out.up (below_a1 (Nat.le_refl W.heap.size) (.cells #[.nilFunc] 133))
  have HAL : Hid (∀ k, k < W.heap.size → (W.alloc (.cells #[.nilFunc] 133)).heap[k]? = W.heap[k]?) := fun k hk => Below.heap_alloc W _ k hk
  have hRB : Box (W.alloc (.cells #[.nilFunc] 133)) W.heap.size #[.nilFunc] 133 := World.alloc_heap_new _ _
  have hsz0 : (W.alloc (.cells #[.nilFunc] 133)).heap.size = W.heap.size + 1 := by simp
  generalize W.alloc (.cells #[.nilFunc] 133) = W2 at *
  clear n1 n2 c1 c2
  have c1 := hS2.box.cell 1
  have c2 := hS2.box.cell 2
  have f2 := hS2.box.frozen 2
  simp only [List.getElem?_toArray, List.getElem?_cons_succ, List.getElem?_cons_zero] at c1 c2
  have n1 := World.new_ne W2 _ c1
  have n2 := World.new_ne W2 _ c2
  have hown := hS2.row.own
  have hne : some B ≠ pv.ownBlock := fun e => by have := (hown.lt B e.symm).1; omega
  have hfl : (xs.flatMap pcV).length = xs.length * 3 := hown.1
  have HS2 := Lib.hid hS2
  have hBlt : B < W2.heap.size := by omega
  clear hS2
  obtain ⟨R2, hR2⟩ : ∃ R2, W2.heap.size = R2 := ⟨_, rfl⟩
  have hB2 := hBlt
  rw [hR2] at n1 n2 hBlt hsz0
  have HSZ := Lib.hid hsz0
  clear hsz0
  have hBR : B + 1 ≤ R2 + 1 := by omega
  have HL : Hid (w.heap.size ≤ W.heap.size) := HS.out.below.size
  have HN : Hid (W.heap.size ≠ B ∧ some W.heap.size ≠ pv.ownBlock) := ⟨by omega, fun e => by have := (HS.out.row.own.lt _ e.symm).2; omega⟩
  go_region_law ((refine step_append_lies _ (by rfl) _ _ _ (by rfl) (B + 1) 78 i0 _ 3 32 Tryz.underlying74 hi hz0 hz1 hz2 rfl (by decide) _ xs.length (xs.flatMap pcV) (by rfl) (by first | exact World.ownsRow.alloc hown _ | exact hown.alloc _) ⟨R2, 0, none⟩ 1 1 [.iface T u, .int .i64 (a : Int), .int .i64 (n : Int)] (by rfl) (by rfl) (by rw [← hR2]; exact World.news_of_block (cs := #[_, _, _]) (heap_alloc_new W2 _)) (fun u hu => by simp only [List.mem_cons, List.not_mem_nil, or_false] at hu; rcases hu with rfl | rfl | rfl <;> rfl) (by omega) (by unfold maxLen; omega) (by omega) (by first | (simp; omega)) (R2 + 1) (by first | rfl | simp [hR2]) ?_; intro g cap w1 hown1 hgrow1 hat1 _; have e1 : w1.cell? ⟨B, 2, none⟩ = some pv := (by rw [hgrow1.cell_far _ (by simp; omega) hne]; first | exact (World.cell?_of_block (Below.heap_alloc W2 _ B hB2)).trans c2); have e2 : w1.frozen? ⟨B, 2, none⟩ = false := (by rw [hgrow1.frozen_far _ (by simp; omega) hne]; first | exact fz_alloc hB2 f2 | exact fz_alloc' hB2 f2)))
  all_goals
    have hm : LxSt w B s a (xs ++ [⟨t, a, n⟩]) (.slice (some ⟨g, 0, none⟩) (xs.length + 1) cap) (w1.setCell ⟨B, 2, none⟩ (.slice (some ⟨g, 0, none⟩) (xs.length + 1) cap)) ∧ Box (w1.setCell ⟨B, 2, none⟩ (.slice (some ⟨g, 0, none⟩) (xs.length + 1) cap)) W.heap.size #[.nilFunc] 133 ∧ (W2.heap.size ≤ (w1.setCell ⟨B, 2, none⟩ (.slice (some ⟨g, 0, none⟩) (xs.length + 1) cap)).heap.size ∧ ∀ k, k < W2.heap.size → k ≠ B → some k ≠ pv.ownBlock → (w1.setCell ⟨B, 2, none⟩ (.slice (some ⟨g, 0, none⟩) (xs.length + 1) cap)).heap[k]? = W2.heap[k]?) := by
      first | exact add_mid HS2.out hRB HN.out.1 HN.out.2 (by rw [HPC.out]; exact hown1) hgrow1 | exact add_mid HS2.out hRB HN.out.1 HN.out.2 (by rw [HPC.out]; exact hown1) (gr_drew hgrow1)
    have hgR : W.heap.size ≠ g := fun e => by
      rcases hat1 with q | q
      · exact HN.out.2 (by rw [e]; exact q.symm)
      · have := HSZ.out; omega
    generalize w1.setCell ⟨B, 2, none⟩ (.slice (some ⟨g, 0, none⟩) (xs.length + 1) cap) = W3 at *
    obtain ⟨hm1, hm2, hm4, hm5⟩ := hm
    have k1 := hm1.box.cell 1
    have k3 := hm1.box.frozen 1
    have k4 := hm2.cell 0
    have k5 := hm2.frozen 0
    simp only [List.getElem?_toArray, List.getElem?_cons_succ, List.getElem?_cons_zero] at k1 k4
    have k6 := HN.out.1
    have hm3 := hm2.other k6 1 (.int .i64 (n : Int))
    have k7 := hm3.cell 0
    have k8 := hm3.frozen 0
    simp only [List.getElem?_toArray, List.getElem?_cons_zero] at k7
    have hst : (store ⟨W.heap.size, 0, none⟩ (.func (.func 98) #[] #[])).run Tryz.prog (W3.setCell ⟨B, 1, none⟩ (.int .i64 (n : Int))) = .ok () ((W3.setCell ⟨B, 1, none⟩ (.int .i64 (n : Int))).setCell ⟨W.heap.size, 0, none⟩ (.func (.func 98) #[] #[])) := by
      rw [run_store _ _ _ _ _ rfl, k7, k8]
      rfl
    have hf := (hm1.setAt n).far k6 (by intro e; exact hgR (Option.some.inj e)) HL.out (.func (.func 98) #[] #[])
    have k9 := (hm3.set 0 (.func (.func 98) #[] #[])).cell 0
    simp only [List.setIfInBounds_toArray, List.set_cons_zero, List.getElem?_toArray, List.getElem?_cons_zero] at k9
    have hto : LxTo B pv (.slice (some ⟨g, 0, none⟩) (xs.length + 1) cap) W ((W3.setCell ⟨B, 1, none⟩ (.int .i64 (n : Int))).setCell ⟨W.heap.size, 0, none⟩ (.func (.func 98) #[] #[])) := by
      refine ⟨by have := HSZ.out; simp; omega, fun k hk h1 h2 => ?_, fun b e => ?_⟩
      · rw [Below.heap_setCell _ _ _ k (by show k ≠ W.heap.size; omega), Below.heap_setCell _ _ _ k h1, hm5 k (by have := HSZ.out; omega) h1 h2]
        exact HAL.out k hk
      · cases e
        rcases hat1 with q | q
        · exact .inl q
        · exact .inr (by have h8 := HSZ.out; show W.heap.size ≤ g; omega)
    have HM := Lib.hid (And.intro hf (And.intro k9 hto))
    clear hf k9 hto hm4 hm5 hm1 hm2 hm3 e1 e2 hown1 hgrow1 hat1 hgR c1 c2 f2 hown hfl
    go_wp2_with fail
    generalize (W3.setCell ⟨B, 1, none⟩ (.int .i64 (n : Int))).setCell ⟨W.heap.size, 0, none⟩ (.func (.func 98) #[] #[]) = W5 at *
    have k9 := HM.out.2.1
    exact bodyPost_ret (v := .agg #[.func (.func 98) #[] #[]]) (by simp [results, Tryz.results185, k9, go_sem]) rfl ⟨rfl, _, HM.out.1, HM.out.2.2⟩
end Go.Proofs.YthfciekhmbfmfaaGreatDoor

/- The lexer's steps that cut one lexeme. -/
namespace Go.Proofs.YthfciekhmbfmfaaGreatDoor
open Go.RowKit Go

/-- The step that goes on with begin. -/
def stepB : Value := .agg #[.func (.func 98) #[] #[]]
/-- What a step does that cuts a lexeme, or throws. -/
def CutQ (w : World) (B : Nat) (s : ByteArray) (a : Nat) (xs : List Lx) (pv : Value) (x : Option (Tok × Nat)) (W : World) (e : Ending) (W' : World) : Prop :=
  match x with
  | some (t, m) => e = .returned stepB ∧ ∃ pv', LxSt w B s (a + m) (xs ++ [⟨t, a, a + m⟩]) pv' W' ∧ LxTo B pv pv' W W'
  | none => e = thrown a 20 ∧ Below w.heap.size w W'
/-- A name, or that of a variable, if it is not too long. -/
def nameX (k : TK) (L : List UInt8) : Option (Tok × Nat) := if L.length ≤ 32 then some (⟨k, L, 0⟩, L.length) else none
abbrev alS (W : World) : World := W.alloc (.cells #[.nilFunc] 133)
theorem cut_fin {w W W1 W2 : World} {B a a' : Nat} {s : ByteArray} {xs xs' : List Lx} {pv pv' : Value} (h : LxSt w B s a xs pv W) (hB : Below (alS W).heap.size (alS W) W1) (h2 : LxSt w B s a' xs' pv' W2) (hT : LxTo B pv pv' W1 W2) (v : Value) :
    Box W2 W.heap.size #[.nilFunc] 133 ∧ LxSt w B s a' xs' pv' (W2.setCell ⟨W.heap.size, 0, none⟩ v) ∧ LxTo B pv pv' W (W2.setCell ⟨W.heap.size, 0, none⟩ v) ∧ (W2.setCell ⟨W.heap.size, 0, none⟩ v).cell? ⟨W.heap.size, 0, none⟩ = some v := by
  have hsz : (alS W).heap.size = W.heap.size + 1 := by simp
  have hb1 := Box.keep hB (World.alloc_heap_new W (.cells #[.nilFunc] 133) : Box (alS W) W.heap.size #[.nilFunc] 133)
  have hne : W.heap.size ≠ B := fun e => by have := h.box.lt; omega
  have hno : some W.heap.size ≠ pv.ownBlock := fun e => by have := (h.row.own.lt _ e.symm).2; omega
  have hs1 := hB.size
  have hb2 := hT.box hb1 hne hno
  have hno2 : some W.heap.size ≠ pv'.ownBlock := fun e => by
    rcases hT.own _ e.symm with q | q
    · exact hno q.symm
    · omega
  have hW1 : Below W.heap.size W W1 := (below_a1 (Nat.le_refl _) _).trans (hB.mono (by omega))
  refine ⟨hb2, h2.far hne hno2 h.below.size v, ⟨by have := hT.size; simp; omega, fun k hk h3 h4 => ?_, fun b hb => ?_⟩, ?_⟩
  · rw [Below.heap_setCell _ _ _ k (by show k ≠ W.heap.size; omega), hT.block k (by omega) h3 h4]
    exact hW1.block k hk
  · rcases hT.own b hb with q | q
    · exact .inl q
    · exact .inr (by omega)
  · have := (hb2.set 0 v).cell 0
    simpa using this
set_option maxRecDepth 100000 in
set_option maxHeartbeats 4000000 in
theorem cutName_any (w : World) (B : Nat) (s : ByteArray) (a : Nat) (xs : List Lx) (pv : Value) (W : World) (h : LxSt w B s a xs pv W) (hx : xs.length ≤ 100000) (ha : a ≤ s.size) (hs : s.size ≤ 1000000) :
    Calls Tryz.prog 136 #[.pointer (some ⟨B, 0, none⟩)] W (CutQ w B s a xs pv (nameX .name (runL naB (s.data.toList.drop a))) W) := by
  have hnm := fun pv w hB => namedName_any B s a pv w hB ha hs
  have hLl : (runL naB (s.data.toList.drop a)).length ≤ 1000000 := by
    have h1 := (List.takeWhile_sublist (l := s.data.toList.drop a) naB).length_le
    have h2 : (s.data.toList.drop a).length = s.size - a := by simp
    simp only [runL]
    omega
  generalize runL naB (s.data.toList.drop a) = L at *
  have hadd := fun W pv h => add_any w B s a (a + L.length) xs ⟨.name, L, 0⟩ pv W h hx
  have HS := Lib.hid (And.intro h (And.intro hnm hadd))
  have h0 := h.up (below_a1 (Nat.le_refl W.heap.size) (.cells #[.nilFunc] 133))
  have H0 := Lib.hid h0
  clear h h0 hnm hadd
  go_enter Tryz.func136, Tryz.ntmps136
  go_wp2_with fail
  refine (HS.out.2.1 pv _ H0.out.box).mono ?_
  rintro e W1 ⟨he, hB1⟩
  have h1 := H0.out.up hB1
  have c1 := h1.box.cell 1
  have l0 := h1.box.lt
  simp only [List.getElem?_toArray, List.getElem?_cons_succ, List.getElem?_cons_zero] at c1
  have HB1 : Hid (Below (alS W).heap.size (alS W) W1) := hB1
  have H1 := Lib.hid h1
  clear hB1 h1
  by_cases h32 : L.length ≤ 32
  · rw [if_pos h32] at he
    subst he
    have HQ : Hid (nameX .name L = some (⟨.name, L, 0⟩, L.length)) := if_pos h32
    have hsum : ((a + L.length : Nat) : Int) = (a : Int) + (L.length : Int) := by omega
    have HA := Lib.hid (HS.out.2.2 W1 pv)
    rw [hsum] at HA
    clear h32 hsum
    go_wp2_with fail
    refine (HA.out H1.out).mono ?_
    rintro e W2 ⟨rfl, pv', hL2, hT2⟩
    have hfin := cut_fin HS.out.1 HB1.out hL2 hT2 (.func (.func 98) #[] #[])
    have k7 := hfin.1.cell 0
    have k8 := hfin.1.frozen 0
    simp only [List.getElem?_toArray, List.getElem?_cons_zero] at k7
    have hst : (store ⟨W.heap.size, 0, none⟩ (.func (.func 98) #[] #[])).run Tryz.prog W2 = .ok () (W2.setCell ⟨W.heap.size, 0, none⟩ (.func (.func 98) #[] #[])) := by
      rw [run_store _ _ _ _ _ rfl, k7, k8]
      rfl
    have HF := Lib.hid hfin.2
    clear hfin hL2 hT2
    go_wp2_with fail
    generalize W2.setCell ⟨W.heap.size, 0, none⟩ (.func (.func 98) #[] #[]) = W5 at *
    have k9 := HF.out.2.2
    refine bodyPost_ret (v := stepB) (by simp [results, Tryz.results136, k9, go_sem, stepB]) rfl ?_
    rw [HQ.out]
    exact ⟨rfl, _, HF.out.1, HF.out.2.1⟩
  · rw [if_neg h32] at he
    subst he
    have HQ : Hid (nameX .name L = none) := if_neg h32
    refine And.intro rfl ?_
    rw [HQ.out]
    exact ⟨rfl, H1.out.below⟩
set_option maxRecDepth 100000 in
set_option maxHeartbeats 4000000 in
theorem cutVar_any (w : World) (B : Nat) (s : ByteArray) (a : Nat) (xs : List Lx) (pv : Value) (W : World) (h : LxSt w B s a xs pv W) (hx : xs.length ≤ 100000) (ha : a ≤ s.size) (hs : s.size ≤ 1000000) :
    Calls Tryz.prog 138 #[.pointer (some ⟨B, 0, none⟩)] W (CutQ w B s a xs pv (nameX .var (runL naB (s.data.toList.drop a))) W) := by
  have hnm := fun pv w hB => namedName_any B s a pv w hB ha hs
  have hLl : (runL naB (s.data.toList.drop a)).length ≤ 1000000 := by
    have h1 := (List.takeWhile_sublist (l := s.data.toList.drop a) naB).length_le
    have h2 : (s.data.toList.drop a).length = s.size - a := by simp
    simp only [runL]
    omega
  generalize runL naB (s.data.toList.drop a) = L at *
  have hadd := fun W pv h => add_any w B s a (a + L.length) xs ⟨.var, L, 0⟩ pv W h hx
  have HS := Lib.hid (And.intro h (And.intro hnm hadd))
  have h0 := h.up (below_a1 (Nat.le_refl W.heap.size) (.cells #[.nilFunc] 133))
  have H0 := Lib.hid h0
  clear h h0 hnm hadd
  go_enter Tryz.func138, Tryz.ntmps138
  go_wp2_with fail
  refine (HS.out.2.1 pv _ H0.out.box).mono ?_
  rintro e W1 ⟨he, hB1⟩
  have h1 := H0.out.up hB1
  have c1 := h1.box.cell 1
  have l0 := h1.box.lt
  simp only [List.getElem?_toArray, List.getElem?_cons_succ, List.getElem?_cons_zero] at c1
  have HB1 : Hid (Below (alS W).heap.size (alS W) W1) := hB1
  have H1 := Lib.hid h1
  clear hB1 h1
  by_cases h32 : L.length ≤ 32
  · rw [if_pos h32] at he
    subst he
    have HQ : Hid (nameX .var L = some (⟨.var, L, 0⟩, L.length)) := if_pos h32
    have hsum : ((a + L.length : Nat) : Int) = (a : Int) + (L.length : Int) := by omega
    have HA := Lib.hid (HS.out.2.2 W1 pv)
    rw [hsum] at HA
    clear h32 hsum
    go_wp2_with fail
    refine (HA.out H1.out).mono ?_
    rintro e W2 ⟨rfl, pv', hL2, hT2⟩
    have hfin := cut_fin HS.out.1 HB1.out hL2 hT2 (.func (.func 98) #[] #[])
    have k7 := hfin.1.cell 0
    have k8 := hfin.1.frozen 0
    simp only [List.getElem?_toArray, List.getElem?_cons_zero] at k7
    have hst : (store ⟨W.heap.size, 0, none⟩ (.func (.func 98) #[] #[])).run Tryz.prog W2 = .ok () (W2.setCell ⟨W.heap.size, 0, none⟩ (.func (.func 98) #[] #[])) := by
      rw [run_store _ _ _ _ _ rfl, k7, k8]
      rfl
    have HF := Lib.hid hfin.2
    clear hfin hL2 hT2
    go_wp2_with fail
    generalize W2.setCell ⟨W.heap.size, 0, none⟩ (.func (.func 98) #[] #[]) = W5 at *
    have k9 := HF.out.2.2
    refine bodyPost_ret (v := stepB) (by simp [results, Tryz.results138, k9, go_sem, stepB]) rfl ?_
    rw [HQ.out]
    exact ⟨rfl, _, HF.out.1, HF.out.2.1⟩
  · rw [if_neg h32] at he
    subst he
    have HQ : Hid (nameX .var L = none) := if_neg h32
    refine And.intro rfl ?_
    rw [HQ.out]
    exact ⟨rfl, H1.out.below⟩
end Go.Proofs.YthfciekhmbfmfaaGreatDoor
