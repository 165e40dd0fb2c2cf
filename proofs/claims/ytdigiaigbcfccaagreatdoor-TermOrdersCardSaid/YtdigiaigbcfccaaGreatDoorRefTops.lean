/- The second readings of Compare, Times, Ground and Symbols. -/
import Derived.Test.YtdigiaigbcfccaaGreatDoorRefOrd
import Derived.Test.YtdigiaigbcfccaaGreatDoorRefSyms
import Derived.Test.YtdigiaigbcfccaaGreatDoorShift
namespace Go.Proofs.YtdigiaigbcfccaaGreatDoor
open Go.RowKit Go

theorem isB_goodT {T : Tr} (h : isB T = true) : T.good = true := by
  rw [isB, Bool.and_eq_true] at h
  rw [← good_preT 1 T]
  exact h.2
def ordV (X Y : Tr) : Int := if isB X && isB Y then ordT X Y else 0
def ordE (X Y : Tr) : Int := errI (isB X && isB Y)
theorem ord_no {X Y : Tr} (h : isB X = false ∨ isB Y = false) : ordV X Y = 0 ∧ ordE X Y = 3 := by
  have : (isB X && isB Y) = false := by rcases h with h | h <;> simp [h]
  rw [ordV, ordE, this]
  exact ⟨rfl, rfl⟩
theorem ord_yes {X Y : Tr} (h : isB X = true) (k : isB Y = true) : ordV X Y = ordT X Y ∧ ordE X Y = 0 := by
  rw [ordV, ordE, h, k]
  exact ⟨rfl, rfl⟩
set_option maxHeartbeats 1000000 in
theorem refCompare_any (X Y : Tr) (v u : Value) (w : World) (hx : IsT w.heap.size w X v) (hy : IsT w.heap.size w Y u) (hsx : X.size ≤ 1000000) (hdx : X.deep ≤ 1000000) (hsy : Y.size ≤ 1000000) (hdy : Y.deep ≤ 1000000) :
    Calls Tryz.prog 7 #[v, u] w fun e w' => e = .returned (.tuple #[.int .i64 (ordV X Y), .int .i64 (ordE X Y)]) ∧ Below w.heap.size w w' := by
  replace hsx : X.size ≤ 1000000000 := by omega
  replace hdx : X.deep ≤ 1000000000 := by omega
  replace hsy : Y.size ≤ 1000000000 := by omega
  replace hdy : Y.deep ≤ 1000000000 := by omega
  obtain ⟨k, n, s, a, m, c, rfl⟩ := (IsT.toP _ _ hx).form
  obtain ⟨k', n', s', a', m', c', rfl⟩ := (IsT.toP _ _ hy).form
  have bbx : Box ((w.alloc (.cells #[.int .i64 k, .int .i64 n, .string s, .slice a m c] 24)).alloc (.cells #[.int .i64 k', .int .i64 n', .string s', .slice a' m' c'] 24)) w.heap.size #[.int .i64 k, .int .i64 n, .string s, .slice a m c] 24 := (Box.at rfl).alloc _
  have bby : Box ((w.alloc (.cells #[.int .i64 k, .int .i64 n, .string s, .slice a m c] 24)).alloc (.cells #[.int .i64 k', .int .i64 n', .string s', .slice a' m' c'] 24)) (w.heap.size + 1) #[.int .i64 k', .int .i64 n', .string s', .slice a' m' c'] 24 := Box.at (by simp)
  have hb := below_a2 (Nat.le_refl w.heap.size) (.cells #[.int .i64 k, .int .i64 n, .string s, .slice a m c] 24) (.cells #[.int .i64 k', .int .i64 n', .string s', .slice a' m' c'] 24)
  replace hx := hx.up hb hb.size
  replace hy := hy.up hb hb.size
  go_enter Tryz.func7, Tryz.ntmps7
  have qx0 := bbx.cell 0
  have qx1 := bbx.cell 1
  have qx2 := bbx.cell 2
  have qx3 := bbx.cell 3
  have lx := bbx.lt
  simp only [List.getElem?_toArray, List.getElem?_cons_succ, List.getElem?_cons_zero] at qx0 qx1 qx2 qx3
  go_wp2_with fail
  clear qx0 qx1 qx2 qx3 lx
  refine (refCheck_any X _ _ hx hsx hdx).mono ?_
  rintro e W1 ⟨rfl, B⟩
  replace bbx := Box.keep B bbx
  replace bby := Box.keep B bby
  replace hx := hx.up B B.size
  replace hy := hy.up B B.size
  replace hb := hb.trans (B.mono hb.size)
  clear B
  cases hr : isB X with
  | false =>
    have HV := Lib.hid (ord_no (Y := Y) (.inl hr))
    clear hr
    rw [show errI false = 3 from rfl]
    go_wp2_with fail
    go_ret2
    exact ⟨by rw [HV.out.1, HV.out.2]; rfl, hb⟩
  | true =>
    rw [show errI true = 0 from rfl]
    have HR := Lib.hid hr
    clear hr
    have qy0 := bby.cell 0
    have qy1 := bby.cell 1
    have qy2 := bby.cell 2
    have qy3 := bby.cell 3
    have ly := bby.lt
    simp only [List.getElem?_toArray, List.getElem?_cons_succ, List.getElem?_cons_zero] at qy0 qy1 qy2 qy3
    go_wp2_with fail
    clear qy0 qy1 qy2 qy3 ly
    refine (refCheck_any Y _ _ hy hsy hdy).mono ?_
    rintro e W2 ⟨rfl, B⟩
    replace bbx := Box.keep B bbx
    replace bby := Box.keep B bby
    replace hx := hx.up B B.size
    replace hy := hy.up B B.size
    replace hb := hb.trans (B.mono hb.size)
    clear B
    cases hr2 : isB Y with
    | false =>
      have HV := Lib.hid (ord_no (X := X) (.inr hr2))
      clear hr2
      rw [show errI false = 3 from rfl]
      go_wp2_with fail
      go_ret2
      exact ⟨by rw [HV.out.1, HV.out.2]; rfl, hb⟩
    | true =>
      rw [show errI true = 0 from rfl]
      have HR2 := Lib.hid hr2
      have HV := Lib.hid (ord_yes HR.out hr2)
      clear hr2
      have qx0 := bbx.cell 0
      have qx1 := bbx.cell 1
      have qx2 := bbx.cell 2
      have qx3 := bbx.cell 3
      have lx := bbx.lt
      have qy0 := bby.cell 0
      have qy1 := bby.cell 1
      have qy2 := bby.cell 2
      have qy3 := bby.cell 3
      have ly := bby.lt
      simp only [List.getElem?_toArray, List.getElem?_cons_succ, List.getElem?_cons_zero] at qx0 qx1 qx2 qx3 qy0 qy1 qy2 qy3
      go_wp2_with fail
      refine (refOrder_any X Y _ _ _ hx hy (isB_goodT HR.out) (isB_goodT HR2.out)).mono ?_
      rintro e W3 ⟨rfl, B⟩
      replace hb := hb.trans (B.mono hb.size)
      clear B qx0 qx1 qx2 qx3 lx qy0 qy1 qy2 qy3 ly
      go_wp2_with fail
      go_ret2
      exact ⟨by rw [HV.out.1, HV.out.2]; rfl, hb⟩

theorem tmsP_cons (x : Int) (y : Int × Tr) (ys : List (Int × Tr)) : tmsP x (y :: ys) = (if y.2.kind = 1 ∧ y.2.num = x then 1 else 0) + tmsP x ys := by
  rw [tmsP, tmsP, List.countP_cons, isV]
  by_cases h1 : y.2.kind = 1 <;> by_cases h2 : y.2.num = x <;> simp [h1, h2] <;> omega
theorem tmsP_append (x : Int) (u v : List (Int × Tr)) : tmsP x (u ++ v) = tmsP x u + tmsP x v := List.countP_append
mutual
theorem tms_deep (x : Int) : ∀ (T : Tr) (d d' : Int), tmsP x (preT d T) = tmsP x (preT d' T)
  | .node k n s l, d, d' => by rw [preT, preT, tmsP_cons, tmsP_cons, tms_deepL x l (d + 1) (d' + 1)]
theorem tms_deepL (x : Int) : ∀ (l : List Tr) (d d' : Int), tmsP x (preL d l) = tmsP x (preL d' l)
  | [], _, _ => rfl
  | t :: ts, d, d' => by rw [preL, preL, tmsP_append, tmsP_append, tms_deep x t d d', tms_deepL x ts d d']
end
theorem tms_node (x k n : Int) (s : ByteArray) (l : List Tr) : tmsT x (.node k n s l) = (if k = 1 ∧ n = x then 1 else 0) + tmsP x (preL 2 l) := by
  rw [tmsT, preT, tmsP_cons]; rfl
theorem tms_take (x : Int) (l : List Tr) (j : Nat) (h : j < l.length) : tmsP x (preL 2 (l.take (j + 1))) = tmsP x (preL 2 (l.take j)) + tmsT x l[j] := by
  rw [preL_take 2 l j h, tmsP_append, tms_deep x l[j] 2 1]; rfl

set_option maxRecDepth 100000 in
set_option maxHeartbeats 4000000 in
theorem refCount_any (n₀ : Nat) (y : Int) (T : Tr) : ∀ (v : Value) (w : World), IsT n₀ w T v → n₀ ≤ w.heap.size → T.size ≤ 1000000 →
    Calls Tryz.prog 40 #[v, .int .i64 y] w fun e w' => e = .returned (.int .i64 (tmsT y T : Nat)) ∧ Below w.heap.size w w' := by
  induction T using Tr.ind with
  | h k n s ts ih =>
    intro v w hT hn₀ hsz
    obtain ⟨a, c, rfl, -, -, -, h4, h5, hts⟩ := hT.open
    simp only [Tr.size] at hsz
    have hln := length_le_sizeL ts
    have hlm : ts.length ≤ 9223372036854775807 := by omega
    have HTS := Lib.hid hts
    have HI := Lib.hid ih
    clear ih hts hT
    have hA0 : Box (w.alloc (.cells #[.int .i64 k, .int .i64 n, .string s, .slice a ts.length c] 24)) w.heap.size #[.int .i64 k, .int .i64 n, .string s, .slice a ts.length c] 24 := Box.at rfl
    have hB0 := below_a1 (Nat.le_refl w.heap.size) (.cells #[.int .i64 k, .int .i64 n, .string s, .slice a ts.length c] 24)
    have q0 := hA0.cell 0
    have q1 := hA0.cell 1
    have q3 := hA0.cell 3
    have l0 := hA0.lt
    simp only [List.getElem?_toArray, List.getElem?_cons_succ, List.getElem?_cons_zero] at q0 q1 q3
    obtain ⟨m0, hm0, hm1⟩ : ∃ m0 : Nat, (if k = 1 ∧ n = y then 1 else 0) = m0 ∧ m0 ≤ 1 := ⟨_, rfl, by split <;> omega⟩
    have hfin : Hid (∀ m : Nat, m = m0 + tmsP y (preL 2 ts) → m = tmsT y (.node k n s ts)) := by rw [Hid, tms_node, hm0]; exact fun m h => h
    have LOOPHYP : Hid True := ⟨⟩
    clear LOOPHYP
    by_cases hk : k = 1 ∧ n = y
    · rw [if_pos hk] at hm0
      obtain ⟨rfl, rfl⟩ := hk
      subst hm0
      go_enter Tryz.func40, Tryz.ntmps40
      go_wp2_with fail
      clear q0 q1 q3 l0
      go_loopw [5, 6] (fun mv iv wr => ∃ (j : Nat) (m : Nat), j ≤ ts.length ∧ mv = .int .i64 (m : Nat) ∧ iv = .int .i64 j ∧ Hid (m = 1 + tmsP n (preL 2 (ts.take j))) ∧ m ≤ 1 + sizeL (ts.take j) ∧ Below w.heap.size w wr ∧ Box wr w.heap.size #[.int .i64 1, .int .i64 n, .string s, .slice a ts.length c] 24) (fun _ iv _ => ts.length - (intOf iv).toNat)
      case atStart => exact ⟨0, 1, Nat.zero_le _, rfl, rfl, rfl, by omega, hB0, hA0⟩
      case round =>
        obtain ⟨j, m, hj, rfl, rfl, HM, hml, hB, hA⟩ := hrel
        have q3 := hA.cell 3
        have l0 := hA.lt
        simp only [List.getElem?_toArray, List.getElem?_cons_succ, List.getElem?_cons_zero] at q3
        have hBr := hB.mono hn₀
        by_cases hlt : j < ts.length
        · obtain ⟨b, off, rfl, hbb⟩ := HTS.out.addr (by omega)
          obtain ⟨tk, tn, tss, tl, ta, tc, te, d0, d1, d2, d3, ht⟩ := HTS.out.node' hbb hBr j hlt
          have hbw : b < wr.heap.size := by omega
          have hst := sizeL_take_add hlt
          have hcall := HI.out ts[j] (List.getElem_mem hlt) _ wr (ht.below hBr) (by omega) (by omega)
          have htl := tms_le n ts[j]
          have hrt : sizeL (ts.take (j + 1)) = sizeL (ts.take j) + ts[j].size := by rw [List.take_succ_eq_append_getElem hlt, sizeL_append]; simp [sizeL]
          obtain ⟨r, hr⟩ : ∃ r : Nat, tmsT n ts[j] = r := ⟨_, rfl⟩
          have HM2 : Hid (m + r = 1 + tmsP n (preL 2 (ts.take (j + 1)))) := by have h := HM.out; rw [Hid, tms_take _ ts j hlt, hr]; omega
          rw [hr] at hcall htl
          have hmr : m + r ≤ 1 + sizeL (ts.take (j + 1)) := by omega
          have hw : IntKind.wrap .i64 ((m : Int) + (r : Int)) = ((m + r : Nat) : Int) := by simp [IntKind.wrap, IntKind.bits, IntKind.signed]; omega
          have HH := Lib.hid (And.intro hmr hB)
          have HC := Lib.hid hcall
          clear te ht hcall hBr htl hrt hr hmr hml hst
          go_wp2_with fail
          refine HC.out.mono ?_
          rintro e W5 ⟨rfl, hB5⟩
          have hA5 := Box.keep hB5 hA
          have hB6 := HH.out.2.trans (hB5.mono HH.out.2.size)
          clear HC d0 d1 d2 d3 q3 l0 hA hB hB5
          go_wp2_with fail
          go_roundw
          case rel => exact ⟨j + 1, m + r, hlt, by first | rfl | go_num | (rw [hw]), by go_num, HM2, HH.out.1, hB6, hA5⟩
          case measure => simp [intOf]; omega
        · have et : ts.take j = ts := List.take_of_length_le (by omega)
          have hres := hfin.out m (by have h := HM.out; rwa [et] at h)
          have HR := Lib.hid (And.intro hres hB)
          clear hres hBr et hA hB hml
          go_wp2_with fail
          go_ret
          exact ⟨by rw [← HR.out.1]; rfl, HR.out.2⟩
    · rw [if_neg hk] at hm0
      subst hm0
      by_cases hk1 : k = 1
      · have hk2 : (n == y) = false := by simpa using fun e => hk ⟨hk1, e⟩
        subst hk1
        clear hk
        go_enter Tryz.func40, Tryz.ntmps40
        go_wp2_with fail
        clear q0 q1 q3 l0
        go_loopw [5, 6] (fun mv iv wr => ∃ (j : Nat) (m : Nat), j ≤ ts.length ∧ mv = .int .i64 (m : Nat) ∧ iv = .int .i64 j ∧ Hid (m = 0 + tmsP y (preL 2 (ts.take j))) ∧ m ≤ 1 + sizeL (ts.take j) ∧ Below w.heap.size w wr ∧ Box wr w.heap.size #[.int .i64 1, .int .i64 n, .string s, .slice a ts.length c] 24) (fun _ iv _ => ts.length - (intOf iv).toNat)
        case atStart => exact ⟨0, 0, Nat.zero_le _, rfl, rfl, rfl, by omega, hB0, hA0⟩
        case round =>
          obtain ⟨j, m, hj, rfl, rfl, HM, hml, hB, hA⟩ := hrel
          have q3 := hA.cell 3
          have l0 := hA.lt
          simp only [List.getElem?_toArray, List.getElem?_cons_succ, List.getElem?_cons_zero] at q3
          have hBr := hB.mono hn₀
          by_cases hlt : j < ts.length
          · obtain ⟨b, off, rfl, hbb⟩ := HTS.out.addr (by omega)
            obtain ⟨tk, tn, tss, tl, ta, tc, te, d0, d1, d2, d3, ht⟩ := HTS.out.node' hbb hBr j hlt
            have hbw : b < wr.heap.size := by omega
            have hst := sizeL_take_add hlt
            have hcall := HI.out ts[j] (List.getElem_mem hlt) _ wr (ht.below hBr) (by omega) (by omega)
            have htl := tms_le y ts[j]
            have hrt : sizeL (ts.take (j + 1)) = sizeL (ts.take j) + ts[j].size := by rw [List.take_succ_eq_append_getElem hlt, sizeL_append]; simp [sizeL]
            obtain ⟨r, hr⟩ : ∃ r : Nat, tmsT y ts[j] = r := ⟨_, rfl⟩
            have HM2 : Hid (m + r = 0 + tmsP y (preL 2 (ts.take (j + 1)))) := by have h := HM.out; rw [Hid, tms_take _ ts j hlt, hr]; omega
            rw [hr] at hcall htl
            have hmr : m + r ≤ 1 + sizeL (ts.take (j + 1)) := by omega
            have hw : IntKind.wrap .i64 ((m : Int) + (r : Int)) = ((m + r : Nat) : Int) := by simp [IntKind.wrap, IntKind.bits, IntKind.signed]; omega
            have HH := Lib.hid (And.intro hmr hB)
            have HC := Lib.hid hcall
            clear te ht hcall hBr htl hrt hr hmr hml hst
            go_wp2_with fail
            refine HC.out.mono ?_
            rintro e W5 ⟨rfl, hB5⟩
            have hA5 := Box.keep hB5 hA
            have hB6 := HH.out.2.trans (hB5.mono HH.out.2.size)
            clear HC d0 d1 d2 d3 q3 l0 hA hB hB5
            go_wp2_with fail
            go_roundw
            case rel => exact ⟨j + 1, m + r, hlt, by first | rfl | go_num | (rw [hw]), by go_num, HM2, HH.out.1, hB6, hA5⟩
            case measure => simp [intOf]; omega
          · have et : ts.take j = ts := List.take_of_length_le (by omega)
            have hres := hfin.out m (by have h := HM.out; rwa [et] at h)
            have HR := Lib.hid (And.intro hres hB)
            clear hres hBr et hA hB hml
            go_wp2_with fail
            go_ret
            exact ⟨by rw [← HR.out.1]; rfl, HR.out.2⟩
      · have hk2 : (k == 1) = false := by simpa using hk1
        clear hk hk1
        go_enter Tryz.func40, Tryz.ntmps40
        go_wp2_with fail
        clear q0 q1 q3 l0
        go_loopw [5, 6] (fun mv iv wr => ∃ (j : Nat) (m : Nat), j ≤ ts.length ∧ mv = .int .i64 (m : Nat) ∧ iv = .int .i64 j ∧ Hid (m = 0 + tmsP y (preL 2 (ts.take j))) ∧ m ≤ 1 + sizeL (ts.take j) ∧ Below w.heap.size w wr ∧ Box wr w.heap.size #[.int .i64 k, .int .i64 n, .string s, .slice a ts.length c] 24) (fun _ iv _ => ts.length - (intOf iv).toNat)
        case atStart => exact ⟨0, 0, Nat.zero_le _, rfl, rfl, rfl, by omega, hB0, hA0⟩
        case round =>
          obtain ⟨j, m, hj, rfl, rfl, HM, hml, hB, hA⟩ := hrel
          have q3 := hA.cell 3
          have l0 := hA.lt
          simp only [List.getElem?_toArray, List.getElem?_cons_succ, List.getElem?_cons_zero] at q3
          have hBr := hB.mono hn₀
          by_cases hlt : j < ts.length
          · obtain ⟨b, off, rfl, hbb⟩ := HTS.out.addr (by omega)
            obtain ⟨tk, tn, tss, tl, ta, tc, te, d0, d1, d2, d3, ht⟩ := HTS.out.node' hbb hBr j hlt
            have hbw : b < wr.heap.size := by omega
            have hst := sizeL_take_add hlt
            have hcall := HI.out ts[j] (List.getElem_mem hlt) _ wr (ht.below hBr) (by omega) (by omega)
            have htl := tms_le y ts[j]
            have hrt : sizeL (ts.take (j + 1)) = sizeL (ts.take j) + ts[j].size := by rw [List.take_succ_eq_append_getElem hlt, sizeL_append]; simp [sizeL]
            obtain ⟨r, hr⟩ : ∃ r : Nat, tmsT y ts[j] = r := ⟨_, rfl⟩
            have HM2 : Hid (m + r = 0 + tmsP y (preL 2 (ts.take (j + 1)))) := by have h := HM.out; rw [Hid, tms_take _ ts j hlt, hr]; omega
            rw [hr] at hcall htl
            have hmr : m + r ≤ 1 + sizeL (ts.take (j + 1)) := by omega
            have hw : IntKind.wrap .i64 ((m : Int) + (r : Int)) = ((m + r : Nat) : Int) := by simp [IntKind.wrap, IntKind.bits, IntKind.signed]; omega
            have HH := Lib.hid (And.intro hmr hB)
            have HC := Lib.hid hcall
            clear te ht hcall hBr htl hrt hr hmr hml hst
            go_wp2_with fail
            refine HC.out.mono ?_
            rintro e W5 ⟨rfl, hB5⟩
            have hA5 := Box.keep hB5 hA
            have hB6 := HH.out.2.trans (hB5.mono HH.out.2.size)
            clear HC d0 d1 d2 d3 q3 l0 hA hB hB5
            go_wp2_with fail
            go_roundw
            case rel => exact ⟨j + 1, m + r, hlt, by first | rfl | go_num | (rw [hw]), by go_num, HM2, HH.out.1, hB6, hA5⟩
            case measure => simp [intOf]; omega
          · have et : ts.take j = ts := List.take_of_length_le (by omega)
            have hres := hfin.out m (by have h := HM.out; rwa [et] at h)
            have HR := Lib.hid (And.intro hres hB)
            clear hres hBr et hA hB hml
            go_wp2_with fail
            go_ret
            exact ⟨by rw [← HR.out.1]; rfl, HR.out.2⟩

theorem addV_ge (S : List Int) (x : Int × Tr) : S.length ≤ (addV S x).length := by unfold addV; split <;> simp
theorem varsP_ge : ∀ (xs : List (Int × Tr)) (S : List Int), S.length ≤ (varsP S xs).length
  | [], _ => Nat.le_refl _
  | x :: xs, S => Nat.le_trans (addV_ge S x) (varsP_ge xs (addV S x))
theorem varsP_none : ∀ xs : List (Int × Tr), (varsP [] xs).length = 0 ↔ (xs.all fun x => !decide (x.2.kind = 1)) = true
  | [] => by simp [varsP]
  | x :: xs => by
    have ih := varsP_none xs
    by_cases hk : x.2.kind = 1
    · have h := varsP_ge xs [x.2.num]
      have e : varsP [] (x :: xs) = varsP [x.2.num] xs := by simp [varsP, addV, hk]
      rw [e]
      simp only [List.all_cons, hk, decide_true, Bool.not_true, Bool.false_and]
      simp at h
      constructor
      · intro h2; omega
      · intro h2; cases h2
    · have e : varsP [] (x :: xs) = varsP [] xs := by simp [varsP, addV, hk]
      rw [e, ih]
      simp [hk]
theorem grd_len (T : Tr) : (vrT T []).length = 0 ↔ grdB T = true := by rw [vrT_eq T [] 1]; exact varsP_none _
def RSymsPost (T : Tr) (w : World) (e : Ending) (w' : World) : Prop := Below w.heap.size w w' ∧ match isB T with
  | true => ∃ v', e = .returned (.tuple #[v', .int .i64 0]) ∧ w'.ownsRow w.heap.size 42 2 v' (syT T []).length (symsE (syT T []))
  | false => e = .returned (.tuple #[.slice none 0 0, .int .i64 3])

set_option maxHeartbeats 1000000 in
theorem refTimes_any (T : Tr) (y : Int) (v : Value) (w : World) (hx : IsT w.heap.size w T v) (hs : T.size ≤ 1000000) (hd : T.deep ≤ 1000000) :
    Calls Tryz.prog 11 #[v, .int .i64 y] w (TimesPost y T w) := by
  replace hd : T.deep ≤ 1000000000 := by omega
  have hs9 : T.size ≤ 1000000000 := by omega
  obtain ⟨k, n, s, a, m, c, rfl⟩ := (IsT.toP _ _ hx).form
  have bbx : Box (w.alloc (.cells #[.int .i64 k, .int .i64 n, .string s, .slice a m c] 24)) w.heap.size #[.int .i64 k, .int .i64 n, .string s, .slice a m c] 24 := Box.at rfl
  have hb := below_a1 (Nat.le_refl w.heap.size) (.cells #[.int .i64 k, .int .i64 n, .string s, .slice a m c] 24)
  replace hx := hx.up hb hb.size
  go_enter Tryz.func11, Tryz.ntmps11
  have qx0 := bbx.cell 0
  have qx1 := bbx.cell 1
  have qx2 := bbx.cell 2
  have qx3 := bbx.cell 3
  have lx := bbx.lt
  simp only [List.getElem?_toArray, List.getElem?_cons_succ, List.getElem?_cons_zero] at qx0 qx1 qx2 qx3
  go_wp2_with fail
  clear qx0 qx1 qx2 qx3 lx
  refine (refCheck_any T _ _ hx hs9 hd).mono ?_
  rintro e W1 ⟨rfl, B⟩
  replace bbx := Box.keep B bbx
  replace hx := hx.up B B.size
  replace hb := hb.trans (B.mono hb.size)
  clear B
  cases hr : isB T with
  | false =>
    have HR := Lib.hid hr
    clear hr
    rw [show errI false = 3 from rfl]
    go_wp2_with fail
    go_ret2
    exact ⟨by rw [HR.out]; rfl, hb⟩
  | true =>
    rw [show errI true = 0 from rfl]
    have HR := Lib.hid hr
    clear hr
    have qx0 := bbx.cell 0
    have qx1 := bbx.cell 1
    have qx2 := bbx.cell 2
    have qx3 := bbx.cell 3
    have lx := bbx.lt
    simp only [List.getElem?_toArray, List.getElem?_cons_succ, List.getElem?_cons_zero] at qx0 qx1 qx2 qx3
    go_wp2_with fail
    refine (refCount_any _ y T _ _ hx (Nat.le_refl _) hs).mono ?_
    rintro e W2 ⟨rfl, B⟩
    replace hb := hb.trans (B.mono hb.size)
    clear B qx0 qx1 qx2 qx3 lx
    go_wp2_with fail
    go_ret2
    exact ⟨by rw [HR.out]; rfl, hb⟩

set_option maxHeartbeats 1000000 in
theorem refSymbols_any (T : Tr) (v : Value) (w : World) (hx : IsT w.heap.size w T v) (hs : T.size ≤ 1000000) (hd : T.deep ≤ 1000000) :
    Calls Tryz.prog 16 #[v] w (RSymsPost T w) := by
  replace hd : T.deep ≤ 1000000000 := by omega
  have hs9 : T.size ≤ 1000000000 := by omega
  obtain ⟨k, n, s, a, m, c, rfl⟩ := (IsT.toP _ _ hx).form
  have bbx : Box (w.alloc (.cells #[.int .i64 k, .int .i64 n, .string s, .slice a m c] 24)) w.heap.size #[.int .i64 k, .int .i64 n, .string s, .slice a m c] 24 := Box.at rfl
  have hb := below_a1 (Nat.le_refl w.heap.size) (.cells #[.int .i64 k, .int .i64 n, .string s, .slice a m c] 24)
  replace hx := hx.up hb hb.size
  go_enter Tryz.func16, Tryz.ntmps16
  have qx0 := bbx.cell 0
  have qx1 := bbx.cell 1
  have qx2 := bbx.cell 2
  have qx3 := bbx.cell 3
  have lx := bbx.lt
  simp only [List.getElem?_toArray, List.getElem?_cons_succ, List.getElem?_cons_zero] at qx0 qx1 qx2 qx3
  go_wp2_with fail
  clear qx0 qx1 qx2 qx3 lx
  refine (refCheck_any T _ _ hx hs9 hd).mono ?_
  rintro e W1 ⟨rfl, B⟩
  replace bbx := Box.keep B bbx
  replace hx := hx.up B B.size
  replace hb := hb.trans (B.mono hb.size)
  clear B
  cases hr : isB T with
  | false =>
    have HR := Lib.hid hr
    clear hr
    rw [show errI false = 3 from rfl]
    go_wp2_with fail
    go_ret2
    exact ⟨hb, by rw [HR.out]; rfl⟩
  | true =>
    rw [show errI true = 0 from rfl]
    have HR := Lib.hid hr
    clear hr
    have qx0 := bbx.cell 0
    have qx1 := bbx.cell 1
    have qx2 := bbx.cell 2
    have qx3 := bbx.cell 3
    have lx := bbx.lt
    simp only [List.getElem?_toArray, List.getElem?_cons_succ, List.getElem?_cons_zero] at qx0 qx1 qx2 qx3
    go_wp2_with fail
    have hW1 := hb.size
    refine (refSymbols1_any w.heap.size _ T [] _ _ _ hx (World.ownsRow_nil _ _ _ _) (by omega) (Nat.le_refl _) (by simpa using hs)).mono ?_
    rintro e W2 ⟨v', rfl, hn, B⟩
    have HN := Lib.hid hn
    clear hn
    replace hb := hb.trans (B.mono hb.size)
    clear B qx0 qx1 qx2 qx3 lx
    go_wp2_with fail
    go_ret2
    exact ⟨hb, by rw [HR.out]; exact ⟨_, rfl, HN.out⟩⟩

set_option maxHeartbeats 1000000 in
theorem refGround_any (T : Tr) (v : Value) (w : World) (hx : IsT w.heap.size w T v) (hs : T.size ≤ 1000000) (hd : T.deep ≤ 1000000) :
    Calls Tryz.prog 14 #[v] w (GroundPost T w) := by
  replace hd : T.deep ≤ 1000000000 := by omega
  have hs9 : T.size ≤ 1000000000 := by omega
  obtain ⟨k, n, s, a, m, c, rfl⟩ := (IsT.toP _ _ hx).form
  have bbx : Box (w.alloc (.cells #[.int .i64 k, .int .i64 n, .string s, .slice a m c] 24)) w.heap.size #[.int .i64 k, .int .i64 n, .string s, .slice a m c] 24 := Box.at rfl
  have hb := below_a1 (Nat.le_refl w.heap.size) (.cells #[.int .i64 k, .int .i64 n, .string s, .slice a m c] 24)
  replace hx := hx.up hb hb.size
  go_enter Tryz.func14, Tryz.ntmps14
  have qx0 := bbx.cell 0
  have qx1 := bbx.cell 1
  have qx2 := bbx.cell 2
  have qx3 := bbx.cell 3
  have lx := bbx.lt
  simp only [List.getElem?_toArray, List.getElem?_cons_succ, List.getElem?_cons_zero] at qx0 qx1 qx2 qx3
  go_wp2_with fail
  clear qx0 qx1 qx2 qx3 lx
  refine (refCheck_any T _ _ hx hs9 hd).mono ?_
  rintro e W1 ⟨rfl, B⟩
  replace bbx := Box.keep B bbx
  replace hx := hx.up B B.size
  replace hb := hb.trans (B.mono hb.size)
  clear B
  cases hr : isB T with
  | false =>
    have HR := Lib.hid hr
    clear hr
    rw [show errI false = 3 from rfl]
    go_wp2_with fail
    go_ret2
    exact ⟨by rw [HR.out]; rfl, hb⟩
  | true =>
    rw [show errI true = 0 from rfl]
    have HR := Lib.hid hr
    clear hr
    have qx0 := bbx.cell 0
    have qx1 := bbx.cell 1
    have qx2 := bbx.cell 2
    have qx3 := bbx.cell 3
    have lx := bbx.lt
    simp only [List.getElem?_toArray, List.getElem?_cons_succ, List.getElem?_cons_zero] at qx0 qx1 qx2 qx3
    go_wp2_with fail
    refine (refVariables_any W1.heap.size W1.heap.size (Nat.le_refl _) T [] _ _ _ hx (World.ownsRow_nil _ _ _ _) (Nat.le_refl _) (by simpa using hs)).mono ?_
    rintro e W2 ⟨v', rfl, hn, hg, -⟩
    have B : Below W1.heap.size W1 W2 := grown_below' hg (Nat.le_refl _) (fun g e => by cases e)
    obtain ⟨a1, c1, q, rfl, hq⟩ : ∃ (a1 : Option Addr) (c1 q : Nat), v' = .slice a1 q c1 ∧ q = (vrT T []).length := by
      rcases hn.open with ⟨rfl, h⟩ | ⟨g, cap, cur, rfl, _⟩
      · exact ⟨none, 0, 0, rfl, by rw [h]; rfl⟩
      · exact ⟨_, cap, _, rfl, rfl⟩
    have hgl := grd_len T
    rw [← hq] at hgl
    clear hn hg hq
    replace hb := hb.trans (B.mono hb.size)
    clear B qx0 qx1 qx2 qx3 lx
    by_cases hq0 : q = 0
    · have HG := Lib.hid (hgl.1 hq0)
      subst hq0
      clear hgl
      go_wp2_with fail
      go_ret2
      exact ⟨by rw [HR.out, HG.out]; rfl, hb⟩
    · have hqn : ((q : Int) == 0) = false := by simpa using hq0
      have HG : Hid (grdB T = false) := by rw [Hid, Bool.eq_false_iff]; exact fun h => hq0 (hgl.2 h)
      clear hgl hq0
      go_wp2_with fail
      go_ret2
      exact ⟨by rw [HR.out, HG.out]; rfl, hb⟩
end Go.Proofs.YtdigiaigbcfccaaGreatDoor
