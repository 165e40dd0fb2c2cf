/- read.Lex: the lexemes of a text, in a row. -/
import Derived.Deep.AppendLies
import Derived.Test.YthfciekhmbfmfaaGreatDoorLexA
import Derived.Test.YthfciekhmbfmfaaGreatDoorWrX
import Derived.Test.YthfciekhmbfmfaaGreatDoorRSame
import Derived.Test.YthfciekhmbfmfaaGreatDoorParZ
namespace Go.Proofs.YthfciekhmbfmfaaGreatDoor
open Go.RowKit Go Go.Maps

def lxsV (lo : Nat) (s : ByteArray) (v : Value) (W : World) : Prop := ∃ xs, lexR s = .ok xs ∧ OwnR 60 5 lxV lo xs v W
theorem lxsV.far {lo : Nat} {s : ByteArray} {v : Value} {A B : World} (hk : ∀ k, lo ≤ k → k < A.heap.size → B.heap[k]? = A.heap[k]?) (h : lxsV lo s v A) : lxsV lo s v B := by
  obtain ⟨xs, h1, h2⟩ := h
  exact ⟨xs, h1, h2.block fun b hb => by
    obtain ⟨h5, c, fr, h6⟩ := own_typed h2.own hb
    exact hk b h5 (Array.getElem?_eq_some_iff.1 h6).1⟩
theorem lxV_form (x : Lx) : ∃ k n s, lxV x = [.int .i64 k, .int .i64 n, .string s, .int .i64 (x.a : Int), .int .i64 (x.e : Int)] := ⟨_, _, _, rfl⟩
/-- The cells of the j-th piece. -/
theorem OwnR.pieceAt {lo : Nat} {xs : List Lx} {g n c : Nat} {W : World} (h : OwnR 78 3 pcV lo xs (.slice (some ⟨g, 0, none⟩) n c) W) {j : Nat} (hj : j < xs.length) :
    W.cell? ⟨g, j * 3, none⟩ = some (tokV xs[j].t) ∧ W.cell? ⟨g, j * 3 + 1, none⟩ = some (.int .i64 (xs[j].a : Int)) ∧ W.cell? ⟨g, j * 3 + 2, none⟩ = some (.int .i64 (xs[j].e : Int)) := by
  have hfl : ∀ i, i < 3 → (xs.flatMap pcV)[j * 3 + i]? = (pcV xs[j])[i]? := by
    intro i hi
    have : xs = xs.take j ++ xs[j] :: xs.drop (j + 1) := by simp
    conv => lhs; rw [this]
    have hl : ∀ l : List Lx, (l.flatMap pcV).length = l.length * 3 := fun l => by
      induction l with
      | nil => rfl
      | cons x l ih => rw [List.flatMap_cons, List.length_append, ih]; simp [pcV]; omega
    rw [List.flatMap_append, List.getElem?_append_right (by rw [hl]; simp; omega), hl, List.flatMap_cons, List.getElem?_append_left (by simp [pcV]; omega)]
    congr 1
    simp; omega
  refine ⟨h.cells rfl ?_, h.cells rfl ?_, h.cells rfl ?_⟩
  · have := hfl 0 (by omega); rw [Nat.add_zero] at this; exact this
  · exact hfl 1 (by omega)
  · exact hfl 2 (by omega)
set_option maxRecDepth 100000 in
set_option maxHeartbeats 8000000 in
theorem lexC_any (T : Nat) (s : ByteArray) (W : World) (hT : W.cell? ⟨T, 0, none⟩ = some (.string s)) (hTl : T < W.heap.size) (hs : s.size ≤ 1000000) (mm : Int) (hmx : W.cell? ⟨1, 0, none⟩ = some (.int .i64 mm)) (lo : Nat) (hlo : lo ≤ W.heap.size) :
    Calls Tryz.prog 57 #[.pointer (some ⟨T, 0, none⟩)] W (RunQ W (lxsV lo s) (errO (lexR s))) := by
  obtain ⟨i0, hi, hz0, hz1, hz2⟩ := info_parts infoLx
  have HN := Lib.hid (cutR_any s W hs mm hmx)
  clear hmx
  go_enter Tryz.func57, Tryz.ntmps57
  go_wp2_with fail
  refine (HN.out).mono ?_
  rintro e w1 ⟨hB1, hQ1⟩
  cases hl : lexR s with
  | error x =>
    rw [hl] at hQ1
    obtain rfl : e = thrown x.1 x.2 := hQ1
    refine And.intro rfl ?_
    exact ⟨hB1, rfl⟩
  | ok xs =>
    rw [hl] at hQ1
    obtain ⟨pv, rfl, hown⟩ := hQ1
    have hl8 := (lexR_ok hl).2.len
    have HW := Lib.hid (And.intro hB1 (And.intro hown hl))
    clear hB1 hown hl hT hTl
    rcases hz : xs.length with _ | m
    · obtain rfl : xs = [] := List.length_eq_zero_iff.1 hz
      obtain ⟨na, nc, rfl⟩ := HW.out.2.1.slice
      simp only [List.length_nil]
      clear hz hl8
      go_wp2_with fail
      go_loopw [8, 2] (fun iv ov wr => iv = .int .i64 0 ∧ ov = .slice none 0 0 ∧ wr = w1) (fun _ _ _ => 0)
      case atStart => exact ⟨rfl, rfl, rfl⟩
      case round =>
        obtain ⟨rfl, rfl, rfl⟩ := hrel
        go_wp2_with fail
        go_ret
        refine ⟨HW.out.1, ?_⟩
        rw [HW.out.2.2]
        exact ⟨_, rfl, [], HW.out.2.2, OwnR.nil _ _⟩
    · obtain ⟨g, nc, rfl, _, hgl⟩ := HW.out.2.1.own.form (by omega)
      obtain ⟨len, hlen⟩ : ∃ len, xs.length = len := ⟨_, rfl⟩
      rw [hlen] at HW ⊢
      have hbd : len ≤ 8000 := by omega
      clear hz hl8
      go_wp2_with fail
      go_loopw [8, 2] (fun iv ov wr => ∃ j : Nat, j ≤ len ∧ iv = .int .i64 (j : Int) ∧ OwnR 60 5 lxV w1.heap.size (xs.take j) ov wr ∧ Below w1.heap.size w1 wr) (fun iv _ _ => len - (intOf iv).toNat)
      case atStart => exact ⟨0, Nat.zero_le _, rfl, OwnR.nil _ _, Below.refl _ _⟩
      case round =>
        obtain ⟨j, hj, rfl, ho, hBr⟩ := hrel
        by_cases hlt : j < len
        · have hlt2 : j < xs.length := by omega
          obtain ⟨p0, p1, p2⟩ := HW.out.2.1.pieceAt hlt2
          rw [← hBr.cell (p := ⟨g, j * 3, none⟩) hgl] at p0
          rw [← hBr.cell (p := ⟨g, j * 3 + 1, none⟩) hgl] at p1
          rw [← hBr.cell (p := ⟨g, j * 3 + 2, none⟩) hgl] at p2
          have hgr : g < wr.heap.size := Nat.lt_of_lt_of_le hgl hBr.size
          have htl : (xs.take j).length = j := by simp; omega
          have HLX := Lib.hid (lexeme_any xs[j] (wr.alloc (.cells #[tokV xs[j].t, .int .i64 (xs[j].a : Int), .int .i64 (xs[j].e : Int)] 78)))
          have hA := below_a1 (Nat.le_refl wr.heap.size) (.cells #[tokV xs[j].t, .int .i64 (xs[j].a : Int), .int .i64 (xs[j].e : Int)] 78)
          have hbx : Box (wr.alloc (.cells #[tokV xs[j].t, .int .i64 (xs[j].a : Int), .int .i64 (xs[j].e : Int)] 78)) wr.heap.size #[tokV xs[j].t, .int .i64 (xs[j].a : Int), .int .i64 (xs[j].e : Int)] 78 := Box.at rfl
          have HO := Lib.hid (And.intro (ho.up hA) (And.intro (hBr.trans (hA.mono hBr.size)) htl))
          obtain ⟨k0, n0, s0, hlx⟩ := lxV_form xs[j]
          rw [hlx] at HLX
          have HTK := Lib.hid (show xs.take (j + 1) = xs.take j ++ [xs[j]] from List.take_succ_eq_append_getElem hlt2)
          have HLV := Lib.hid hlx
          obtain ⟨TT, uu, hTu⟩ := tokV_iface xs[j].t
          rw [hTu] at p0 HLX hbx HO
          generalize xs[j] = x at *
          have q0 := hbx.cell 0
          have q1 := hbx.cell 1
          have q2 := hbx.cell 2
          have lq := hbx.lt
          simp only [List.getElem?_toArray, List.getElem?_cons_succ, List.getElem?_cons_zero] at q0 q1 q2
          clear ho hBr htl hA hbx hTu hlx
          go_wp2_with fail
          refine (HLX.out).mono ?_
          rintro e w2 ⟨rfl, hB2⟩
          have hC2 := HO.out.2.1.trans (hB2.mono HO.out.2.1.size)
          have H2 := Lib.hid (And.intro (HO.out.1.up hB2) hC2)
          have hsz2 : w1.heap.size ≤ w2.heap.size := hC2.size
          have hown2 := H2.out.1.own
          rw [HO.out.2.2] at hown2
          clear hB2 hC2 q0 q1 q2 lq
          go_wp2_with (at_builtin; refine wpList_append_lies _ rfl _ _ 23 rfl w1.heap.size 60 i0 _ 5 48 Tryz.underlying23 hi hz0 hz1 hz2 rfl (by decide) _ _ _ rfl (World.ownsRow.alloc hown2 _) ⟨w2.heap.size, 0, none⟩ 1 1 [.int .i64 k0, .int .i64 n0, .string s0, .int .i64 (x.a : Int), .int .i64 (x.e : Int)] rfl rfl (World.news_of_block (cs := #[_, _, _, _, _]) (heap_alloc_new w2 _)) (fun u hu => by simp only [List.mem_cons, List.not_mem_nil, or_false] at hu; rcases hu with rfl | rfl | rfl | rfl | rfl <;> rfl) (by omega) (by unfold maxLen; omega) (by omega) (by simp; omega) _ rfl ?_)
          intro g3 cap3 w3 hown3 hgrow3 _ _
          have hB3 := H2.out.2.trans ((below_a1 (Nat.le_refl w2.heap.size) (.cells #[.int .i64 k0, .int .i64 n0, .string s0, .int .i64 (x.a : Int), .int .i64 (x.e : Int)] 60)).mono hsz2)
          have hB4 := hB3.trans (gr_low hgrow3 (by simp; omega) (fun k hk => (hown2.lt k hk).1))
          have hpush : OwnR 60 5 lxV w1.heap.size (xs.take j ++ [x]) (.slice (some ⟨g3, 0, none⟩) (j + 1) cap3) w3 := OwnR.push x (by rw [HO.out.2.2, HLV.out]; exact hown3)
          have H4 := Lib.hid (And.intro hpush hB4)
          clear hown3 hgrow3 hB3 hB4 hpush hown2
          go_wp2_with fail
          go_roundw
          case rel => exact ⟨j + 1, hlt, by go_num, by rw [HTK.out]; exact H4.out.1, H4.out.2⟩
          case measure => simp [intOf]; omega
        · obtain rfl : j = len := by omega
          have hall : xs.take j = xs := List.take_of_length_le (by omega)
          rw [hall] at ho
          have H4 := Lib.hid (And.intro ho hBr)
          obtain ⟨na, nc2, rfl⟩ := ho.slice
          clear ho hBr hall
          go_wp2_with fail
          go_ret
          refine ⟨HW.out.1.trans (H4.out.2.mono HW.out.1.size), ?_⟩
          rw [HW.out.2.2]
          exact ⟨_, rfl, xs, HW.out.2.2, H4.out.1.lower (Nat.le_trans hlo HW.out.1.size)⟩
/-- What Lex hands back. -/
def LexQ (s : ByteArray) (w : World) (e : Ending) (w' : World) : Prop :=
  Below w.heap.size w w' ∧ match lexR s with
    | .error x => e = .returned (.tuple #[.slice none 0 0, .int .i64 x.1, .int .i64 x.2])
    | .ok xs => ∃ v, e = .returned (.tuple #[v, .int .i64 0, .int .i64 0]) ∧ OwnR 60 5 lxV w.heap.size xs v w'
set_option maxRecDepth 100000 in
set_option maxHeartbeats 8000000 in
theorem readLex_any (s : ByteArray) (w : World) (hs : s.size ≤ 1000000) (mm : Int) (hmx : w.cell? ⟨1, 0, none⟩ = some (.int .i64 mm)) (hml : 1 < w.heap.size) :
    Calls Tryz.prog 18 #[.string s] w (LexQ s w) := by
  have hmf : ∀ (fn : Fn) (first cap : Array Value) (w : World), (Instr.makeFunc fn first cap).run Tryz.prog w = .ok (.func fn first cap) w := fun _ _ _ _ => rfl
  have hent : ∀ args w, (callFunc 57 args).run Tryz.prog w = .ok (.enter 57 args) w := enters_of Tryz.func57 (by kernel_rfl) rfl
  have hT0 : Box (w.alloc (.cells #[.string s] 9)) w.heap.size #[.string s] 9 := Box.at rfl
  have hA := below_a1 (Nat.le_refl w.heap.size) (.cells #[.string s] 9)
  have H0 := Lib.hid (And.intro hT0 hA)
  have HM := Lib.hid (And.intro hmx (And.intro hml hent))
  clear hT0 hA hmx hml hent
  go_enter Tryz.func18, Tryz.ntmps18
  go_wp2_with fail
  generalize w.alloc (.cells #[.string s] 9) = W0 at *
  obtain ⟨hT0, hA⟩ := H0.out
  refine (attemptLex_any 57 (.pointer (some ⟨w.heap.size, 0, none⟩)) W0 (errO (lexR s)) (lxsV (W0.heap.size + 2) s) (fun v A B hk _ h => lxsV.far hk h) (fun v A h => by
    obtain ⟨xs, h1, h2⟩ := h
    obtain ⟨na, nc, rfl⟩ := h2.slice
    exact ⟨na, _, nc, rfl⟩) (fun w' => HM.out.2.2 _ w') (fun w' hB hl => lexC_any w.heap.size s w' (by have h1 := (hT0.keep hB).cell 0; simpa using h1) (by have := (hT0.keep hB).lt; exact this) hs mm (by
      have hB2 := hA.trans (hB.mono hA.size)
      rw [hB2.cell (p := ⟨1, 0, none⟩) HM.out.2.1]
      exact HM.out.1) (W0.heap.size + 2) hl)).mono ?_
  rintro e w1 ⟨hB1, hQ⟩
  have hBw := hA.trans (hB1.mono hA.size)
  cases hp : lexR s with
  | error x =>
    obtain ⟨xa, xc⟩ := x
    rw [hp] at hQ
    obtain rfl : e = .returned (.tuple #[.slice none 0 0, .int .i64 xa, .int .i64 xc]) := hQ
    have HW := Lib.hid (And.intro hBw hp)
    clear hBw hB1 hp hT0 hA
    go_wp2_with fail
    go_ret3
    refine ⟨HW.out.1, ?_⟩
    rw [HW.out.2]
    rfl
  | ok xs =>
    rw [hp] at hQ
    obtain ⟨v, rfl, xs2, h1, hown⟩ := hQ
    rw [hp] at h1
    cases h1
    obtain ⟨na, nc, rfl⟩ := hown.slice
    have HW := Lib.hid (And.intro hBw (And.intro hp (hown.lower (show w.heap.size ≤ W0.heap.size + 2 by have := hA.size; omega))))
    clear hBw hB1 hp hT0 hA hown
    go_wp2_with fail
    go_ret3
    refine ⟨HW.out.1, ?_⟩
    rw [HW.out.2.1]
    exact ⟨_, rfl, HW.out.2.2⟩
end Go.Proofs.YthfciekhmbfmfaaGreatDoor

/- What the laws of layer 2 share: trees that they make; reads; writes. -/
namespace Go.Proofs.YthfciekhmbfmfaaGreatDoor
open Go.RowKit Go Go.Maps

attribute [local go_sem] Oper.semAt_some monoUpon Yld.says
def IsTr (T : Tr) (u : Value) (W : World) : Prop := IsT W.heap.size W T u
theorem IsTr.stable (T : Tr) : (Yld.any (IsTr T)).stable := fun _ _ _ he h => IsT.up h he (Below.size he)
def IsSl (l : List Tr) (u : Value) (W : World) : Prop := IsS W.heap.size W l u
theorem IsSl.stable (l : List Tr) : (Yld.any (IsSl l)).stable := fun _ _ _ he h => IsS.up h he (Below.size he)
theorem tr_form {T : Tr} {u : Value} {W : World} (h : IsTr T u W) : ∃ k n s a m c, u = .agg #[.int .i64 k, .int .i64 n, .string s, .slice a m c] := by
  cases T with
  | node k n s l =>
    obtain ⟨a, c, rfl, _⟩ := IsT.open h
    exact ⟨_, _, _, _, _, _, rfl⟩
theorem isSl1 {W : World} {T : Tr} {v0 v1 v2 v3 : Value} (h : IsTr T (.agg #[v0, v1, v2, v3]) W) : IsSl [T] (.slice (some ⟨W.heap.size, 0, none⟩) 1 1) (W.alloc (.cells #[v0, v1, v2, v3] 31)) := by
  have hA := below_a1 (Nat.le_refl W.heap.size) (.cells #[v0, v1, v2, v3] 31)
  have hb : Box (W.alloc (.cells #[v0, v1, v2, v3] 31)) W.heap.size #[v0, v1, v2, v3] 31 := Box.at rfl
  exact ⟨_, _, rfl, Nat.le_refl _, by unfold maxLen; omega, IsL.cons hb.lt (hb.cell 0) (hb.cell 1) (hb.cell 2) (hb.cell 3) (IsT.up h hA hA.size) IsL.nil⟩
theorem isSl2 {W : World} {T U : Tr} {v0 v1 v2 v3 u0 u1 u2 u3 : Value} (h : IsTr T (.agg #[v0, v1, v2, v3]) W) (k : IsTr U (.agg #[u0, u1, u2, u3]) W) : IsSl [T, U] (.slice (some ⟨W.heap.size, 0, none⟩) 2 2) (W.alloc (.cells #[v0, v1, v2, v3, u0, u1, u2, u3] 31)) := by
  have hA := below_a1 (Nat.le_refl W.heap.size) (.cells #[v0, v1, v2, v3, u0, u1, u2, u3] 31)
  have hb : Box (W.alloc (.cells #[v0, v1, v2, v3, u0, u1, u2, u3] 31)) W.heap.size #[v0, v1, v2, v3, u0, u1, u2, u3] 31 := Box.at rfl
  exact ⟨_, _, rfl, Nat.le_refl _, by unfold maxLen; omega, IsL.cons hb.lt (hb.cell 0) (hb.cell 1) (hb.cell 2) (hb.cell 3) (IsT.up h hA hA.size) (IsL.cons hb.lt (hb.cell 4) (hb.cell 5) (hb.cell 6) (hb.cell 7) (IsT.up k hA hA.size) IsL.nil)⟩
/-- A tree was made. -/
def MadeQ (T : Tr) (w : World) (e : Ending) (w' : World) : Prop := ∃ u, e = .returned u ∧ Below w.heap.size w w' ∧ IsTr T u w'

set_option maxRecDepth 100000 in
theorem law2Atom_any (s : ByteArray) (hs : s.size ≤ maxLen) (w : World) : Calls Tryz.prog 51 #[.string s] w (MadeQ (.node 3 0 s []) w) := by
  have hA := below_a1 (Nat.le_refl w.heap.size) (.cells #[.int .i64 0, .int .i64 0, .string ⟨#[]⟩, .slice none 0 0] 31)
  have hb : Box (w.alloc (.cells #[.int .i64 0, .int .i64 0, .string ⟨#[]⟩, .slice none 0 0] 31)) w.heap.size #[.int .i64 0, .int .i64 0, .string ⟨#[]⟩, .slice none 0 0] 31 := Box.at rfl
  have H0 := Lib.hid (And.intro hA hb)
  have z0 := hb.frozen 0
  have z1 := hb.frozen 1
  have z2 := hb.frozen 2
  have z3 := hb.frozen 3
  have q0 := hb.cell 0
  have q1 := hb.cell 1
  have q2 := hb.cell 2
  have q3 := hb.cell 3
  have lq := hb.lt
  simp only [List.getElem?_toArray, List.getElem?_cons_succ, List.getElem?_cons_zero] at q0 q1 q2 q3
  clear hA hb
  generalize hX : w.alloc (.cells #[.int .i64 0, .int .i64 0, .string ⟨#[]⟩, .slice none 0 0] 31) = X at *
  go_enter Tryz.func51, Tryz.ntmps51
  go_wp2_with fail
  have hbF := (((H0.out.2.set 0 (.int .i64 3)).set 1 (.int .i64 0)).set 2 (.string s)).set 3 (.slice none 0 0)
  have hbel := ((((H0.out.1).setCell (p := ⟨w.heap.size, 0, none⟩) (Nat.le_refl _) (.int .i64 3)).setCell (p := ⟨w.heap.size, 1, none⟩) (Nat.le_refl _) (.int .i64 0)).setCell (p := ⟨w.heap.size, 2, none⟩) (Nat.le_refl _) (.string s)).setCell (p := ⟨w.heap.size, 3, none⟩) (Nat.le_refl _) (.slice none 0 0)
  generalize ((((X.setCell ⟨w.heap.size, 0, none⟩ (.int .i64 3)).setCell ⟨w.heap.size, 1, none⟩ (.int .i64 0)).setCell ⟨w.heap.size, 2, none⟩ (.string s)).setCell ⟨w.heap.size, 3, none⟩ (.slice none 0 0)) = FW at *
  have y0 := hbF.cell 0
  have y1 := hbF.cell 1
  have y2 := hbF.cell 2
  have y3 := hbF.cell 3
  simp only [List.setIfInBounds_toArray, List.set_cons_zero, List.set_cons_succ, List.getElem?_toArray, List.getElem?_cons_succ, List.getElem?_cons_zero] at y0 y1 y2 y3
  exact bodyPost_ret (v := .agg #[.int .i64 3, .int .i64 0, .string s, .slice none 0 0]) (by simp [results, Tryz.results51, go_sem, y0, y1, y2, y3]) rfl ⟨_, rfl, hbel, IsT.mk (by unfold okI; omega) (by unfold okI; omega) hs (Nat.le_refl _) (by unfold maxLen; omega) IsL.nil⟩
set_option maxRecDepth 100000 in
theorem law2Number_any (n : Int) (hn : okI n) (w : World) : Calls Tryz.prog 54 #[.int .i64 n] w (MadeQ (.node 2 n ⟨#[]⟩ []) w) := by
  have hA := below_a1 (Nat.le_refl w.heap.size) (.cells #[.int .i64 0, .int .i64 0, .string ⟨#[]⟩, .slice none 0 0] 31)
  have hb : Box (w.alloc (.cells #[.int .i64 0, .int .i64 0, .string ⟨#[]⟩, .slice none 0 0] 31)) w.heap.size #[.int .i64 0, .int .i64 0, .string ⟨#[]⟩, .slice none 0 0] 31 := Box.at rfl
  have H0 := Lib.hid (And.intro hA hb)
  have z0 := hb.frozen 0
  have z1 := hb.frozen 1
  have z2 := hb.frozen 2
  have z3 := hb.frozen 3
  have q0 := hb.cell 0
  have q1 := hb.cell 1
  have q2 := hb.cell 2
  have q3 := hb.cell 3
  have lq := hb.lt
  simp only [List.getElem?_toArray, List.getElem?_cons_succ, List.getElem?_cons_zero] at q0 q1 q2 q3
  clear hA hb
  generalize hX : w.alloc (.cells #[.int .i64 0, .int .i64 0, .string ⟨#[]⟩, .slice none 0 0] 31) = X at *
  go_enter Tryz.func54, Tryz.ntmps54
  go_wp2_with fail
  have hbF := (((H0.out.2.set 0 (.int .i64 2)).set 1 (.int .i64 n)).set 2 (.string ⟨#[]⟩)).set 3 (.slice none 0 0)
  have hbel := ((((H0.out.1).setCell (p := ⟨w.heap.size, 0, none⟩) (Nat.le_refl _) (.int .i64 2)).setCell (p := ⟨w.heap.size, 1, none⟩) (Nat.le_refl _) (.int .i64 n)).setCell (p := ⟨w.heap.size, 2, none⟩) (Nat.le_refl _) (.string ⟨#[]⟩)).setCell (p := ⟨w.heap.size, 3, none⟩) (Nat.le_refl _) (.slice none 0 0)
  generalize ((((X.setCell ⟨w.heap.size, 0, none⟩ (.int .i64 2)).setCell ⟨w.heap.size, 1, none⟩ (.int .i64 n)).setCell ⟨w.heap.size, 2, none⟩ (.string ⟨#[]⟩)).setCell ⟨w.heap.size, 3, none⟩ (.slice none 0 0)) = FW at *
  have y0 := hbF.cell 0
  have y1 := hbF.cell 1
  have y2 := hbF.cell 2
  have y3 := hbF.cell 3
  simp only [List.setIfInBounds_toArray, List.set_cons_zero, List.set_cons_succ, List.getElem?_toArray, List.getElem?_cons_succ, List.getElem?_cons_zero] at y0 y1 y2 y3
  exact bodyPost_ret (v := .agg #[.int .i64 2, .int .i64 n, .string ⟨#[]⟩, .slice none 0 0]) (by simp [results, Tryz.results54, go_sem, y0, y1, y2, y3]) rfl ⟨_, rfl, hbel, IsT.mk (by unfold okI; omega) hn (by decide) (Nat.le_refl _) (by unfold maxLen; omega) IsL.nil⟩
set_option maxRecDepth 100000 in
theorem law2Variable_any (n : Int) (hn : okI n) (w : World) : Calls Tryz.prog 53 #[.int .i64 n] w (MadeQ (.node 1 n ⟨#[]⟩ []) w) := by
  have hA := below_a1 (Nat.le_refl w.heap.size) (.cells #[.int .i64 0, .int .i64 0, .string ⟨#[]⟩, .slice none 0 0] 31)
  have hb : Box (w.alloc (.cells #[.int .i64 0, .int .i64 0, .string ⟨#[]⟩, .slice none 0 0] 31)) w.heap.size #[.int .i64 0, .int .i64 0, .string ⟨#[]⟩, .slice none 0 0] 31 := Box.at rfl
  have H0 := Lib.hid (And.intro hA hb)
  have z0 := hb.frozen 0
  have z1 := hb.frozen 1
  have z2 := hb.frozen 2
  have z3 := hb.frozen 3
  have q0 := hb.cell 0
  have q1 := hb.cell 1
  have q2 := hb.cell 2
  have q3 := hb.cell 3
  have lq := hb.lt
  simp only [List.getElem?_toArray, List.getElem?_cons_succ, List.getElem?_cons_zero] at q0 q1 q2 q3
  clear hA hb
  generalize hX : w.alloc (.cells #[.int .i64 0, .int .i64 0, .string ⟨#[]⟩, .slice none 0 0] 31) = X at *
  go_enter Tryz.func53, Tryz.ntmps53
  go_wp2_with fail
  have hbF := (((H0.out.2.set 0 (.int .i64 1)).set 1 (.int .i64 n)).set 2 (.string ⟨#[]⟩)).set 3 (.slice none 0 0)
  have hbel := ((((H0.out.1).setCell (p := ⟨w.heap.size, 0, none⟩) (Nat.le_refl _) (.int .i64 1)).setCell (p := ⟨w.heap.size, 1, none⟩) (Nat.le_refl _) (.int .i64 n)).setCell (p := ⟨w.heap.size, 2, none⟩) (Nat.le_refl _) (.string ⟨#[]⟩)).setCell (p := ⟨w.heap.size, 3, none⟩) (Nat.le_refl _) (.slice none 0 0)
  generalize ((((X.setCell ⟨w.heap.size, 0, none⟩ (.int .i64 1)).setCell ⟨w.heap.size, 1, none⟩ (.int .i64 n)).setCell ⟨w.heap.size, 2, none⟩ (.string ⟨#[]⟩)).setCell ⟨w.heap.size, 3, none⟩ (.slice none 0 0)) = FW at *
  have y0 := hbF.cell 0
  have y1 := hbF.cell 1
  have y2 := hbF.cell 2
  have y3 := hbF.cell 3
  simp only [List.setIfInBounds_toArray, List.set_cons_zero, List.set_cons_succ, List.getElem?_toArray, List.getElem?_cons_succ, List.getElem?_cons_zero] at y0 y1 y2 y3
  exact bodyPost_ret (v := .agg #[.int .i64 1, .int .i64 n, .string ⟨#[]⟩, .slice none 0 0]) (by simp [results, Tryz.results53, go_sem, y0, y1, y2, y3]) rfl ⟨_, rfl, hbel, IsT.mk (by unfold okI; omega) hn (by decide) (Nat.le_refl _) (by unfold maxLen; omega) IsL.nil⟩
set_option maxRecDepth 100000 in
theorem law2Fun_any (s : ByteArray) (hs : s.size ≤ maxLen) (l : List Tr) (v : Value) (w : World) (hl : IsSl l v w) : Calls Tryz.prog 52 #[.string s, v] w (MadeQ (.node 5 0 s l) w) := by
  obtain ⟨a, c, rfl, h1, h2, h3⟩ := hl
  have HL := Lib.hid h3
  clear h3
  have hA := below_a1 (Nat.le_refl w.heap.size) (.cells #[.int .i64 0, .int .i64 0, .string ⟨#[]⟩, .slice none 0 0] 31)
  have hb : Box (w.alloc (.cells #[.int .i64 0, .int .i64 0, .string ⟨#[]⟩, .slice none 0 0] 31)) w.heap.size #[.int .i64 0, .int .i64 0, .string ⟨#[]⟩, .slice none 0 0] 31 := Box.at rfl
  have H0 := Lib.hid (And.intro hA hb)
  have z0 := hb.frozen 0
  have z1 := hb.frozen 1
  have z2 := hb.frozen 2
  have z3 := hb.frozen 3
  have q0 := hb.cell 0
  have q1 := hb.cell 1
  have q2 := hb.cell 2
  have q3 := hb.cell 3
  have lq := hb.lt
  simp only [List.getElem?_toArray, List.getElem?_cons_succ, List.getElem?_cons_zero] at q0 q1 q2 q3
  clear hA hb
  generalize hX : w.alloc (.cells #[.int .i64 0, .int .i64 0, .string ⟨#[]⟩, .slice none 0 0] 31) = X at *
  go_enter Tryz.func52, Tryz.ntmps52
  go_wp2_with fail
  have hbF := (((H0.out.2.set 0 (.int .i64 5)).set 1 (.int .i64 0)).set 2 (.string s)).set 3 (.slice a l.length c)
  have hbel := ((((H0.out.1).setCell (p := ⟨w.heap.size, 0, none⟩) (Nat.le_refl _) (.int .i64 5)).setCell (p := ⟨w.heap.size, 1, none⟩) (Nat.le_refl _) (.int .i64 0)).setCell (p := ⟨w.heap.size, 2, none⟩) (Nat.le_refl _) (.string s)).setCell (p := ⟨w.heap.size, 3, none⟩) (Nat.le_refl _) (.slice a l.length c)
  generalize ((((X.setCell ⟨w.heap.size, 0, none⟩ (.int .i64 5)).setCell ⟨w.heap.size, 1, none⟩ (.int .i64 0)).setCell ⟨w.heap.size, 2, none⟩ (.string s)).setCell ⟨w.heap.size, 3, none⟩ (.slice a l.length c)) = FW at *
  have y0 := hbF.cell 0
  have y1 := hbF.cell 1
  have y2 := hbF.cell 2
  have y3 := hbF.cell 3
  simp only [List.setIfInBounds_toArray, List.set_cons_zero, List.set_cons_succ, List.getElem?_toArray, List.getElem?_cons_succ, List.getElem?_cons_zero] at y0 y1 y2 y3
  exact bodyPost_ret (v := .agg #[.int .i64 5, .int .i64 0, .string s, .slice a l.length c]) (by simp [results, Tryz.results52, go_sem, y0, y1, y2, y3]) rfl ⟨_, rfl, hbel, IsT.mk (by unfold okI; omega) (by unfold okI; omega) hs h1 h2 (HL.out.up hbel hbel.size)⟩

theorem eqT_self (T : Tr) : eqT T T = true := by simp [eqT]
set_option maxRecDepth 100000 in
set_option maxHeartbeats 8000000 in
/-- A text that is read as a tree. -/
theorem reads_true (s : ByteArray) (T : Tr) (ns : List (List UInt8)) (hp : parR s = .ok (T, ns)) (hs : s.size ≤ 1000000) (v : Value) (w : World) (mm : Int) (hC : WrC w mm) (hv : IsTr T v w) :
    Calls Tryz.prog 46 #[.string s, v] w fun e w' => e = .returned (.bool true) ∧ Below w.heap.size w w' := by
  obtain ⟨k0, n0, s0, a0, m0, c0, rfl⟩ := tr_form hv
  have hA := below_a1 (Nat.le_refl w.heap.size) (.cells #[.int .i64 k0, .int .i64 n0, .string s0, .slice a0 m0 c0] 31)
  have hb : Box (w.alloc (.cells #[.int .i64 k0, .int .i64 n0, .string s0, .slice a0 m0 c0] 31)) w.heap.size #[.int .i64 k0, .int .i64 n0, .string s0, .slice a0 m0 c0] 31 := Box.at rfl
  have hC1 := hC.up hA
  have HRD := Lib.hid (readTerm_any s _ hs mm hC1.mx hC1.ml)
  have H0 := Lib.hid (And.intro hA (And.intro hb hv))
  clear hA hb hC1 hv
  go_enter Tryz.func46, Tryz.ntmps46
  go_wp2_with fail
  refine (HRD.out).mono ?_
  rintro e w1 ⟨hB1, hQ⟩
  rw [hp] at hQ
  obtain ⟨u, nv, rfl, htu, hnm⟩ := hQ
  obtain ⟨na, nc, rfl⟩ := hnm.slice
  have hTu := TN.toT htu
  obtain ⟨k1, n1, s1, a1, m1, c1, rfl⟩ := tr_form (show IsTr T u w1 from hTu)
  have hb1 := H0.out.2.1.keep hB1
  have hA2 := below_a1 (Nat.le_refl w1.heap.size) (.cells #[.int .i64 k1, .int .i64 n1, .string s1, .slice a1 m1 c1] 31)
  have hb2 : Box (w1.alloc (.cells #[.int .i64 k1, .int .i64 n1, .string s1, .slice a1 m1 c1] 31)) w1.heap.size #[.int .i64 k1, .int .i64 n1, .string s1, .slice a1 m1 c1] 31 := Box.at rfl
  have hb1' := hb1.keep hA2
  have hBw := H0.out.1.trans (hB1.mono H0.out.1.size)
  have hBw2 := hBw.trans (hA2.mono hBw.size)
  have HSM := Lib.hid (fun (W : World) (hW : Below (w1.alloc (.cells #[.int .i64 k1, .int .i64 n1, .string s1, .slice a1 m1 c1] 31)).heap.size (w1.alloc (.cells #[.int .i64 k1, .int .i64 n1, .string s1, .slice a1 m1 c1] 31)) W) => refSame_any T T _ _ W (H0.out.2.2.up (hBw2.trans (hW.mono hBw2.size)) (Nat.le_trans hBw2.size hW.size)) (IsT.up hTu (hA2.trans (hW.mono hA2.size)) (Nat.le_trans hA2.size hW.size)))
  have HE := Lib.hid (eqT_self T)
  rw [eqT_self] at HSM
  have q0 := hb1'.cell 0
  have q1 := hb1'.cell 1
  have q2 := hb1'.cell 2
  have q3 := hb1'.cell 3
  have p0 := hb2.cell 0
  have p1 := hb2.cell 1
  have p2 := hb2.cell 2
  have p3 := hb2.cell 3
  have lq := hb1'.lt
  have lp := hb2.lt
  simp only [List.getElem?_toArray, List.getElem?_cons_succ, List.getElem?_cons_zero] at q0 q1 q2 q3 p0 p1 p2 p3
  have HB2 := Lib.hid hBw2
  clear hb1 hb1' hb2 hBw hBw2 hA2 hB1 htu hTu hnm
  go_wp2_with fail
  refine (HSM.out _ (Below.refl _ _)).mono ?_
  rintro e w2 ⟨rfl, hB3⟩
  have H3 := Lib.hid (HB2.out.trans (hB3.mono HB2.out.size))
  clear hB3 q0 q1 q2 q3 p0 p1 p2 p3 lq lp
  go_wp2_with fail
  go_ret
  exact ⟨rfl, H3.out⟩
set_option maxRecDepth 100000 in
set_option maxHeartbeats 8000000 in
/-- A tree that is written as a text. -/
theorem writes_true (s : List UInt8) (T : Tr) (hw : textW false vnL T = .tuple #[.string ⟨s.toArray⟩, .int .i64 0]) (v : Value) (w : World) (mm : Int) (hC : WrC w mm) (hdp : T.deep ≤ 999999999) (hv : IsTr T v w) :
    Calls Tryz.prog 55 #[v, .string ⟨s.toArray⟩] w fun e w' => e = .returned (.bool true) ∧ Below w.heap.size w w' := by
  obtain ⟨k0, n0, s0, a0, m0, c0, rfl⟩ := tr_form hv
  have hA := below_a1 (Nat.le_refl w.heap.size) (.cells #[.int .i64 k0, .int .i64 n0, .string s0, .slice a0 m0 c0] 31)
  have hb : Box (w.alloc (.cells #[.int .i64 k0, .int .i64 n0, .string s0, .slice a0 m0 c0] 31)) w.heap.size #[.int .i64 k0, .int .i64 n0, .string s0, .slice a0 m0 c0] 31 := Box.at rfl
  have HTX := Lib.hid (readText_any T _ _ mm (hC.up hA) (IsT.up hv hA hA.size) hdp)
  rw [hw] at HTX
  have H0 := Lib.hid hA
  have q0 := hb.cell 0
  have q1 := hb.cell 1
  have q2 := hb.cell 2
  have q3 := hb.cell 3
  have lq := hb.lt
  simp only [List.getElem?_toArray, List.getElem?_cons_succ, List.getElem?_cons_zero] at q0 q1 q2 q3
  clear hA hb hv
  go_enter Tryz.func55, Tryz.ntmps55
  go_wp2_with fail
  refine (HTX.out).mono ?_
  rintro e w1 ⟨rfl, hB1⟩
  have H1 := Lib.hid (H0.out.trans (hB1.mono H0.out.size))
  clear hB1 q0 q1 q2 q3 lq
  go_wp2_with fail
  go_ret
  exact ⟨by simp, H1.out⟩
end Go.Proofs.YthfciekhmbfmfaaGreatDoor

/- The chapter's examples, reckoned. -/
namespace Go.Proofs.YthfciekhmbfmfaaGreatDoor
open Go.RowKit Go Go.Maps

/-- The tree is written as the text. -/
def wtB (T : Tr) (s : List UInt8) : Bool := isB T && (decide ((wrL false vnL 1200 T ⟨[], false⟩).out = s) && decide (s.length ≤ 20000))
theorem wtB_ok {T : Tr} {s : List UInt8} (h : wtB T s = true) : textW false vnL T = .tuple #[.string ⟨s.toArray⟩, .int .i64 0] := by
  unfold wtB at h
  simp only [Bool.and_eq_true, decide_eq_true_eq] at h
  obtain ⟨h1, h2, h3⟩ := h
  rw [textW, if_pos h1, h2, resF, if_neg (by omega)]
theorem rd0 : ∃ ns, parR ⟨#[88, 32, 43, 32, 89, 32, 42, 32, 88]⟩ = .ok ((tFn [43] [(tVr 0), (tFn [42] [(tVr 1), (tVr 0)])]), ns) := rdB_ok (s := [88, 32, 43, 32, 89, 32, 42, 32, 88]) (by decide +kernel)
theorem rd1 : ∃ ns, parR ⟨#[45, 32, 49]⟩ = .ok ((tFn [45] [(tIn (1))]), ns) := rdB_ok (s := [45, 32, 49]) (by decide +kernel)
theorem rd2 : ∃ ns, parR ⟨#[45, 49]⟩ = .ok ((tIn (-1)), ns) := rdB_ok (s := [45, 49]) (by decide +kernel)
theorem rd3 : ∃ ns, parR ⟨#[97, 32, 45, 32, 45, 49]⟩ = .ok ((tFn [45] [(tAt [97]), (tIn (-1))]), ns) := rdB_ok (s := [97, 32, 45, 32, 45, 49]) (by decide +kernel)
theorem rd4 : ∃ ns, parR ⟨#[91, 97, 44, 98, 124, 84, 93]⟩ = .ok ((tFn [46] [(tAt [97]), (tFn [46] [(tAt [98]), (tVr 0)])]), ns) := rdB_ok (s := [91, 97, 44, 98, 124, 84, 93]) (by decide +kernel)
theorem rd5 : ∃ ns, parR ⟨#[123, 125]⟩ = .ok ((.node 6 0 (nm []) []), ns) := rdB_ok (s := [123, 125]) (by decide +kernel)
theorem rd6 : ∃ ns, parR ⟨#[39, 43, 39]⟩ = .ok ((tAt [43]), ns) := rdB_ok (s := [39, 43, 39]) (by decide +kernel)
theorem rdE : parR ⟨#[97, 32, 61, 32, 98, 32, 61, 32, 99]⟩ = .error (6, 21) := erB_ok (s := [97, 32, 61, 32, 98, 32, 61, 32, 99]) (by decide +kernel)
theorem wt0 : textW false vnL (tFn [45] [(tAt [97]), (tFn [45] [(tAt [98]), (tAt [99])])]) = .tuple #[.string ⟨#[97, 45, 40, 98, 45, 99, 41]⟩, .int .i64 0] := wtB_ok (s := [97, 45, 40, 98, 45, 99, 41]) (by decide +kernel)
theorem wt1 : textW false vnL (tFn [45] [(tFn [45] [(tAt [97]), (tAt [98])]), (tAt [99])]) = .tuple #[.string ⟨#[97, 45, 98, 45, 99]⟩, .int .i64 0] := wtB_ok (s := [97, 45, 98, 45, 99]) (by decide +kernel)
theorem wt2 : textW false vnL (tFn [45] [(tIn (1))]) = .tuple #[.string ⟨#[45, 40, 49, 41]⟩, .int .i64 0] := wtB_ok (s := [45, 40, 49, 41]) (by decide +kernel)
theorem wt3 : textW false vnL (tFn [42] [(tAt [97]), (tIn (-1))]) = .tuple #[.string ⟨#[97, 42, 32, 45, 49]⟩, .int .i64 0] := wtB_ok (s := [97, 42, 32, 45, 49]) (by decide +kernel)
theorem wt4 : textW false vnL (tFn [109, 111, 100] [(tAt [97]), (tAt [98])]) = .tuple #[.string ⟨#[97, 32, 109, 111, 100, 32, 98]⟩, .int .i64 0] := wtB_ok (s := [97, 32, 109, 111, 100, 32, 98]) (by decide +kernel)
theorem wt5 : textW false vnL (tFn [58, 45] [(tFn [58, 45] [(tAt [97]), (tAt [98])])]) = .tuple #[.string ⟨#[58, 45, 32, 40, 97, 58, 45, 98, 41]⟩, .int .i64 0] := wtB_ok (s := [58, 45, 32, 40, 97, 58, 45, 98, 41]) (by decide +kernel)
theorem wt6 : textW false vnL (tFn [61] [(tVr 7), (tFn [102] [(tAt [43]), (.node 4 0 (nm [97, 10]) [])])]) = .tuple #[.string ⟨#[72, 61, 102, 40, 39, 43, 39, 44, 34, 97, 92, 110, 34, 41]⟩, .int .i64 0] := wtB_ok (s := [72, 61, 102, 40, 39, 43, 39, 44, 34, 97, 92, 110, 34, 41]) (by decide +kernel)
def lxB (s : ByteArray) (xs : List Lx) : Bool := match lexR s with | .ok l => decide (l = xs) | .error _ => false
theorem lxB_ok {s : ByteArray} {xs : List Lx} (h : lxB s xs = true) : lexR s = .ok xs := by
  unfold lxB at h
  cases hl : lexR s with
  | error x => rw [hl] at h; cases h
  | ok l => rw [hl] at h; rw [of_decide_eq_true h]
def lxs0 : List Lx := [⟨⟨.name, [102], 0⟩, 0, 1⟩, ⟨⟨.sign, [40], 0⟩, 1, 2⟩, ⟨⟨.var, [88], 0⟩, 2, 3⟩, ⟨⟨.sign, [44], 0⟩, 3, 4⟩, ⟨⟨.name, [45], 0⟩, 4, 5⟩, ⟨⟨.int, [], 1⟩, 5, 6⟩, ⟨⟨.sign, [41], 0⟩, 6, 7⟩, ⟨⟨.fin, [46], 0⟩, 7, 8⟩]
theorem lx0 : lexR ⟨#[102, 40, 88, 44, 45, 49, 41, 46]⟩ = .ok lxs0 := lxB_ok (by decide +kernel)
end Go.Proofs.YthfciekhmbfmfaaGreatDoor
