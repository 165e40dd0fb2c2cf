/- What is written grows; parts, one by one. -/
import Derived.Test.YthfciekhmbfmfaaGreatDoorWriL
import Derived.Test.YthfciekhmbfmfaaGreatDoorVName
namespace Go.Proofs.YthfciekhmbfmfaaGreatDoor
open Go.RowKit Go Go.Maps

theorem putF_ge (st : WS) (s : List UInt8) : st.out.length + s.length ≤ (putF st s).out.length := by
  unfold putF
  split <;> simp
def RecGe (rec : Int → Tr → WS → WS) : Prop := ∀ m t st, st.out.length ≤ (rec m t st).out.length
section
variable {vn : Nat → List UInt8} {plain : Bool} {rec : Int → Tr → WS → WS}
theorem putF_ge' (st : WS) (s : List UInt8) : st.out.length ≤ (putF st s).out.length := Nat.le_trans (Nat.le_add_right _ _) (putF_ge st s)
theorem tailW_ge (hr : RecGe rec) : ∀ (l : List Tr) (st : WS), st.out.length ≤ (tailW rec l st).out.length
  | [], st => Nat.le_refl _
  | t :: ts, st => Nat.le_trans (putF_ge' st [44]) (Nat.le_trans (hr 999 t _) (tailW_ge hr ts _))
theorem partsW_ge (hr : RecGe rec) : ∀ (l : List Tr) (st : WS), st.out.length ≤ (partsW rec l st).out.length
  | [], st => Nat.le_refl _
  | t :: ts, st => Nat.le_trans (hr 999 t _) (tailW_ge hr ts _)
theorem restW_ge (hr : RecGe rec) : ∀ (n : Nat) (T : Tr) (st : WS), st.out.length ≤ (restW rec n T st).out.length
  | 0, _, st => Nat.le_refl _
  | n + 1, .node k i s l, st => by
    rw [restW]
    split
    · exact Nat.le_trans (putF_ge' st [44]) (Nat.le_trans (hr 999 _ _) (restW_ge hr n _ _))
    · split
      · exact Nat.le_refl _
      · exact Nat.le_trans (putF_ge' st [124]) (hr 999 _ _)
theorem simpleW_ge (hr : RecGe rec) (T : Tr) (st : WS) : st.out.length ≤ (simpleW vn rec T st).out.length := by
  cases T with
  | node k n s l =>
    rw [simpleW]
    split
    · exact putF_ge' _ _
    · split
      · exact putF_ge' _ _
      · split
        · exact putF_ge' _ _
        · split
          · exact putF_ge' _ _
          · split
            · exact Nat.le_trans (putF_ge' st [123]) (Nat.le_trans (partsW_ge hr l _) (putF_ge' _ _))
            · split
              · split
                · exact Nat.le_trans (putF_ge' st [91]) (Nat.le_trans (hr 999 _ _) (Nat.le_trans (restW_ge hr _ _ _) (putF_ge' _ _)))
                · exact Nat.le_trans (putF_ge' st _) (Nat.le_trans (putF_ge' _ [40]) (Nat.le_trans (partsW_ge hr l _) (putF_ge' _ _)))
              · exact Nat.le_refl _
theorem bodyW_ge (hr : RecGe rec) (T : Tr) (st : WS) : st.out.length ≤ (bodyW plain vn rec T st).out.length := by
  unfold bodyW
  split
  · exact simpleW_ge hr T st
  · split
    · exact Nat.le_trans (putF_ge' st T.str.data.toList) (hr _ _ ⟨(putF st T.str.data.toList).out, true⟩)
    · exact Nat.le_trans (hr _ _ _) (Nat.le_trans (putF_ge' _ _) (hr _ _ _))
theorem wrN_ge : ∀ n, RecGe (wrN plain vn n)
  | 0, m, t, st => Nat.le_refl _
  | n + 1, m, t, st => by
    rw [wrN]
    split
    · exact Nat.le_trans (putF_ge' st [40]) (Nat.le_trans (bodyW_ge (wrN_ge n) t _) (putF_ge' _ _))
    · exact bodyW_ge (wrN_ge n) t st
theorem tailW_snoc (rec : Int → Tr → WS → WS) (x : Tr) : ∀ (l : List Tr) (st : WS), tailW rec (l ++ [x]) st = rec 999 x (putF (tailW rec l st) [44])
  | [], st => rfl
  | t :: ts, st => by rw [List.cons_append, tailW, tailW_snoc rec x ts, tailW]
theorem partsW_snoc (rec : Int → Tr → WS → WS) (x : Tr) (l : List Tr) (st : WS) : partsW rec (l ++ [x]) st = rec 999 x (if l.length = 0 then partsW rec l st else putF (partsW rec l st) [44]) := by
  cases l with
  | nil => rfl
  | cons t ts =>
    rw [if_neg (by simp), List.cons_append, partsW, tailW_snoc, partsW]
theorem partsW_take (rec : Int → Tr → WS → WS) (l : List Tr) (j : Nat) (hj : j < l.length) (st : WS) : partsW rec (l.take (j + 1)) st = rec 999 l[j] (if j = 0 then partsW rec (l.take j) st else putF (partsW rec (l.take j) st) [44]) := by
  rw [List.take_succ_eq_append_getElem hj, partsW_snoc]
  have : (l.take j).length = j := by simp; omega
  rw [this]
theorem len_le_size : ∀ l : List Tr, l.length ≤ sizeL l
  | [] => Nat.le_refl _
  | t :: ts => by
    have h1 := len_le_size ts
    have h2 := size_pos t
    simp only [List.length_cons, sizeL]
    omega
theorem fineL_take {l : List Tr} (h : fineL l = true) (j : Nat) : fineL (l.take j) = true := by
  rw [fineL_all] at h ⊢
  rw [List.all_eq_true] at h ⊢
  exact fun x hx => h x (List.mem_of_mem_take hx)
theorem fineL_get {l : List Tr} (h : fineL l = true) (j : Nat) (hj : j < l.length) : l[j].fine = true := by
  rw [fineL_all, List.all_eq_true] at h
  exact h _ (List.getElem_mem hj)
theorem size_get {l : List Tr} (j : Nat) (hj : j < l.length) : sizeL (l.take j) + l[j].size ≤ sizeL l := size_take j hj
theorem cell_form {T : Tr} (h : cellB T = true) : ∃ n s x y, T = .node 5 n s [x, y] := by
  cases T with
  | node k n s l =>
    unfold cellB at h
    simp only [Bool.and_eq_true, decide_eq_true_eq] at h
    obtain ⟨⟨rfl, _⟩, h2⟩ := h
    match l, h2 with
    | [x, y], _ => exact ⟨n, s, x, y, rfl⟩
end
end Go.Proofs.YthfciekhmbfmfaaGreatDoor

/- The writer's parts, given its term. -/
namespace Go.Proofs.YthfciekhmbfmfaaGreatDoor
open Go.RowKit Go Go.Maps

/-- The writer's term, for terms of so many nodes. -/
def TermW (w : World) (B b1 b2 : Nat) (fv : Value) (plain : Bool) (vn : Nat → List UInt8) (n : Nat) : Prop := ∀ (T : Tr) (v : Value) (most : Int) (st : WS) (ov : Value) (W : World), T.size ≤ n → T.fine = true → IsT w.heap.size w T v → WrSt w B b1 b2 fv plain st ov W → st.out.length + 5000 * T.size ≤ 800000000 →
    Calls Tryz.prog 84 #[.pointer (some ⟨B, 0, none⟩), v, .int .i64 most] W (WrQ w B b1 b2 fv plain (wrN plain vn n most T st) W)
section
variable {w : World} {B b1 b2 : Nat} {fv ov : Value} {plain : Bool} {vn : Nat → List UInt8} {st : WS} {W : World} {mm : Int} {n : Nat}
set_option maxRecDepth 100000 in
set_option maxHeartbeats 16000000 in
theorem parts_anyW (hT : TermW w B b1 b2 fv plain vn n) (hv : ∀ k, k < 100000 → (vn k).length ≤ 1000) (l : List Tr) (a : Option Addr) (c : Nat) (hl : IsL w.heap.size w l a) (hf : fineL l = true) (hs : sizeL l ≤ n) (h : WrSt w B b1 b2 fv plain st ov W) (hb : st.out.length + 5000 * sizeL l + 10 ≤ 800000000) :
    Calls Tryz.prog 175 #[.pointer (some ⟨B, 0, none⟩), .slice a l.length c] W (WrQ w B b1 b2 fv plain (partsW (wrN plain vn n) l st) W) := by
  have hll := len_le_size l
  have HT := Lib.hid hT
  have HF := Lib.hid hf
  have H0 := Lib.hid h
  have HL := Lib.hid hl
  clear h hT hf hl
  rcases hz : l.length with _ | m
  · obtain rfl : l = [] := List.length_eq_zero_iff.1 hz
    clear hll hz
    go_enter Tryz.func175, Tryz.ntmps175
    go_wp2_with fail
    go_loopw [8] (fun iv wr => iv = .int .i64 0 ∧ wr = W) (fun _ _ => 0)
    case atStart => exact ⟨rfl, rfl⟩
    case round =>
      obtain ⟨rfl, rfl⟩ := hrel
      go_wp2_with fail
      first | go_end0 | go_ret
      exact ⟨rfl, ov, H0.out, WrTo.refl _ _⟩
  · obtain ⟨bb, off, rfl, hbb⟩ := HL.out.addr (by omega)
    obtain ⟨len, hlen⟩ : ∃ len, l.length = len := ⟨_, rfl⟩
    rw [← hz, hlen]
    have hbd : len ≤ 1000000000 := by omega
    clear hz
    go_enter Tryz.func175, Tryz.ntmps175
    go_wp2_with fail
    go_loopw [8] (fun iv wr => ∃ (j : Nat) (ov' : Value), j ≤ len ∧ iv = .int .i64 (j : Int) ∧ WrSt w B b1 b2 fv plain (partsW (wrN plain vn n) (l.take j) st) ov' wr ∧ WrTo B W wr) (fun iv _ => len - (intOf iv).toNat)
    case atStart => exact ⟨0, ov, Nat.zero_le _, rfl, H0.out, WrTo.refl _ _⟩
    case round =>
      obtain ⟨j, ov1, hj, rfl, h1, t1⟩ := hrel
      by_cases hlt : j < len
      · have hlt2 : j < l.length := by omega
        obtain ⟨kx, nx, sx, tx, ax, cx, hx, d0, d1, d2, d3, htx⟩ := IsL.node' HL.out hbb h1.below j hlt2
        have hbW : bb < wr.heap.size := Nat.lt_of_lt_of_le hbb h1.below.size
        have hA := below_a1 (Nat.le_refl wr.heap.size) (.cells #[.int .i64 kx, .int .i64 nx, .string sx, .slice ax tx.length cx] 31)
        have hbx : Box (wr.alloc (.cells #[.int .i64 kx, .int .i64 nx, .string sx, .slice ax tx.length cx] 31)) wr.heap.size #[.int .i64 kx, .int .i64 nx, .string sx, .slice ax tx.length cx] 31 := Box.at rfl
        have hlenj := partsW_len (rec := wrN plain vn n) (wrN_len hv n) (l.take j) st (fineL_take HF.out j)
        have hsj := size_get j hlt2
        have hfj := fineL_get HF.out j hlt2
        have hst := partsW_take (wrN plain vn n) l j hlt2 st
        have H1 := Lib.hid (And.intro (h1.up hA) (And.intro (t1.trans (WrTo.up hA)) hbx))
        have hBne : wr.heap.size ≠ B := by have := h1.box.lt; omega
        clear h1 t1 hA hbx
        by_cases hj0 : j = 0
        · subst hj0
          rw [if_pos rfl] at hst
          simp only [Nat.zero_mul, Nat.add_zero] at d0 d1 d2 d3
          have HC := Lib.hid (fun (w2 : World) (ov2 : Value) (h2 : WrSt w B b1 b2 fv plain (partsW (wrN plain vn n) (l.take 0) st) ov2 w2) => HT.out l[0] _ 999 _ ov2 w2 (by omega) hfj htx h2 (by omega))
          have q0 := H1.out.2.2.cell 0
          have q1 := H1.out.2.2.cell 1
          have q2 := H1.out.2.2.cell 2
          have q3 := H1.out.2.2.cell 3
          simp only [List.getElem?_toArray, List.getElem?_cons_succ, List.getElem?_cons_zero] at q0 q1 q2 q3
          have HST := Lib.hid hst
          clear hst hlenj hsj hfj htx
          go_wp2_with fail
          refine (HC.out _ _ H1.out.1).mono ?_
          rintro e w2 ⟨rfl, ov2, h2, t2⟩
          have H2 := Lib.hid (And.intro h2 (H1.out.2.1.trans t2))
          clear h2 t2 q0 q1 q2 q3
          go_wp2_with fail
          go_roundw
          case rel => exact ⟨1, ov2, by omega, by go_num, by rw [HST.out]; exact H2.out.1, H2.out.2⟩
          case measure => simp [intOf]; omega
        · rw [if_neg hj0] at hst
          have hjp : (j : Int) > 0 := by omega
          have HP := Lib.hid (put_any H1.out.1 ⟨#[44]⟩ (by decide) (by show _ + 1 ≤ _; omega))
          have hpl := putF_len (partsW (wrN plain vn n) (l.take j) st) [44]
          have HC := Lib.hid (fun (w2 : World) (ov2 : Value) (h2 : WrSt w B b1 b2 fv plain (putF (partsW (wrN plain vn n) (l.take j) st) [44]) ov2 w2) => HT.out l[j] _ 999 _ ov2 w2 (by omega) hfj htx h2 (by simp only [List.length_cons, List.length_nil] at hpl; omega))
          have HST := Lib.hid hst
          clear hst hlenj hsj hfj htx hpl
          go_wp2_with fail
          refine (HP.out).mono ?_
          rintro e w1 ⟨rfl, ov2, h2, t2⟩
          have hbx2 := t2.box H1.out.2.2 hBne (by decide)
          have q0 := hbx2.cell 0
          have q1 := hbx2.cell 1
          have q2 := hbx2.cell 2
          have q3 := hbx2.cell 3
          have lq := hbx2.lt
          simp only [List.getElem?_toArray, List.getElem?_cons_succ, List.getElem?_cons_zero] at q0 q1 q2 q3
          have H2 := Lib.hid (And.intro h2 (H1.out.2.1.trans t2))
          clear h2 t2 hbx2
          go_wp2_with fail
          refine (HC.out _ _ H2.out.1).mono ?_
          rintro e w3 ⟨rfl, ov3, h3, t3⟩
          have H3 := Lib.hid (And.intro h3 (H2.out.2.trans t3))
          clear h3 t3 q0 q1 q2 q3
          go_wp2_with fail
          go_roundw
          case rel => exact ⟨j + 1, ov3, by omega, by go_num, by rw [HST.out]; exact H3.out.1, H3.out.2⟩
          case measure => simp [intOf]; omega
      · obtain rfl : j = len := by omega
        have hall : l.take j = l := List.take_of_length_le (by omega)
        rw [hall] at h1
        have H1 := Lib.hid (And.intro h1 t1)
        clear h1 t1 hall
        go_wp2_with fail
        first | go_end0 | go_ret
        exact ⟨rfl, ov1, H1.out.1, H1.out.2⟩
end
end Go.Proofs.YthfciekhmbfmfaaGreatDoor
