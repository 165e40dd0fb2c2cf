/- Places, and what is put there: mathematics over trees; and what the law of edits calls. -/
import Derived.RegionTactic
import Derived.Deep.QuietTactic
import Derived.BigQuiet
import Derived.Test.YtdigiaigbcfccaaDoorPlacesR
import Derived.Test.YtdigiaigbcfccaaDoorApart
import Derived.Test.YtdigiaigbcfccaaDoorOrd
namespace Go.Proofs.YtdigiaigbcfccaaDoor
open Go.RowKit Go

/-- Lists of numbers compared, from the left. -/
def cmpN : List Int → List Int → Int
  | [], [] => 0
  | [], _ :: _ => -1
  | _ :: _, [] => 1
  | x :: xs, y :: ys => if Lib.compareInt x y = 0 then cmpN xs ys else Lib.compareInt x y
/-- Neither of two places lies within the other one. -/
def apN : List Int → List Int → Bool
  | x :: xs, y :: ys => decide (x ≠ y) || apN xs ys
  | _, _ => false
theorem cmpN_app : ∀ (p a b : List Int), cmpN (p ++ a) (p ++ b) = cmpN a b
  | [], _, _ => rfl
  | x :: p, a, b => by
    rw [List.cons_append, List.cons_append, cmpN, if_pos (by simp [Lib.compareInt]), cmpN_app p a b]
theorem cmpN_less {x y : Int} {xs ys : List Int} (h : x < y) : cmpN (x :: xs) (y :: ys) = -1 := by
  have e : Lib.compareInt x y = -1 := by simp [Lib.compareInt, h]
  rw [cmpN, e]
  rfl
mutual
/-- All places stand in their order. -/
theorem plc_sorted : ∀ (T : Tr) (p : List Int), (plcT p T).Pairwise (fun x y => cmpN x.1 y.1 = -1)
  | .node k n s l, p => by
    rw [plcT, List.pairwise_cons]
    refine ⟨fun x hx => ?_, plc_sortedL l p 0⟩
    obtain ⟨j, r, _, h1, _⟩ := plc_nodeL l p 0 x hx
    have e : cmpN (p ++ []) (p ++ ((0 + j : Nat) : Int) :: r) = -1 := cmpN_app p [] _
    rw [List.append_nil] at e
    rw [h1]
    exact e
theorem plc_sortedL : ∀ (l : List Tr) (p : List Int) (i : Nat), (plcL p i l).Pairwise (fun x y => cmpN x.1 y.1 = -1)
  | [], p, i => by rw [plcL]; exact List.Pairwise.nil
  | t :: ts, p, i => by
    rw [plcL, List.pairwise_append]
    refine ⟨plc_sorted t _, plc_sortedL ts p (i + 1), fun x hx y hy => ?_⟩
    obtain ⟨r, h1, _⟩ := plc_node t _ x hx
    obtain ⟨j, r', _, h2, _⟩ := plc_nodeL ts p (i + 1) y hy
    rw [h1, h2, List.append_assoc, cmpN_app, List.singleton_append]
    exact cmpN_less (by omega)
end
theorem withT_self : ∀ (p : List Int) (T N : Tr), nodT p T = some N → withT p T N = T
  | [], T, N, h => by rw [nodT] at h; cases h; rw [withT]
  | i :: p, .node k n s l, N, h => by
    obtain ⟨hlt, _⟩ := nodT_cons (by rw [h]; rfl : (nodT (i :: p) (.node k n s l)).isSome = true)
    have e2 : l.getD i.toNat zeroTr = l[i.toNat] := by rw [List.getD, List.getElem?_eq_getElem hlt]; rfl
    have h0 : 0 ≤ i := nodT_pos (by rw [h]; rfl : (nodT (i :: p) (.node k n s l)).isSome = true)
    rw [nodT, kidT_some (t := .node k n s l) h0 hlt] at h
    simp only [kidsT, Option.bind_some] at h
    rw [withT, e2, withT_self p l[i.toNat] N h, List.set_getElem_self]
where
  nodT_pos {i : Int} {p : List Int} {t : Tr} (hs : (nodT (i :: p) t).isSome = true) : 0 ≤ i := by
    by_cases h : 0 ≤ i
    · exact h
    · rw [nodT, kidT_neg (by omega)] at hs; cases hs
theorem nodT_with (X : Tr) : ∀ (p : List Int) (T : Tr), (nodT p T).isSome = true → nodT p (withT p T X) = some X
  | [], T, _ => by rw [withT]; rfl
  | i :: p, .node k n s l, h => by
    obtain ⟨hlt, h1⟩ := nodT_cons h
    have e2 : l.getD i.toNat zeroTr = l[i.toNat] := by rw [List.getD, List.getElem?_eq_getElem hlt]; rfl
    have h0 : 0 ≤ i := withT_self.nodT_pos h
    rw [withT, e2, nodT, kidT_some (i := i) h0 (by simpa [kidsT] using hlt)]
    simp only [kidsT, Option.bind_some, List.getElem_set_self]
    exact nodT_with X p l[i.toNat] h1
theorem nodT_apart (X : Tr) : ∀ (p q : List Int) (T : Tr), apN p q = true → (nodT p T).isSome = true → nodT q (withT p T X) = nodT q T
  | [], q, _, h, _ => by cases q <;> simp [apN] at h
  | i :: p, [], _, h, _ => by simp [apN] at h
  | i :: p, j :: q, .node k n s l, h, hs => by
    obtain ⟨hlt, h1⟩ := nodT_cons hs
    have e2 : l.getD i.toNat zeroTr = l[i.toNat] := by rw [List.getD, List.getElem?_eq_getElem hlt]; rfl
    have h0 : 0 ≤ i := withT_self.nodT_pos hs
    rw [withT, e2, nodT, nodT]
    by_cases hij : i = j
    · subst hij
      rw [apN, decide_eq_false (by simp), Bool.false_or] at h
      rw [kidT_some (t := .node k n s l) h0 hlt, kidT_some (i := i) h0 (by simpa [kidsT] using hlt)]
      simp only [kidsT, Option.bind_some, List.getElem_set_self]
      exact nodT_apart X p q l[i.toNat] h h1
    · have e : kidT (.node k n s (l.set i.toNat (withT p l[i.toNat] X))) j = kidT (.node k n s l) j := by
        rw [kidT, kidT]
        split
        · rw [kidsT, kidsT, List.getElem?_set_ne (by omega)]
        · rfl
      rw [e]

theorem drop_step {xs : List Int} {j : Nat} (h : j < xs.length) : xs.drop j = xs[j] :: xs.drop (j + 1) := List.drop_eq_getElem_cons h
theorem drop_none {xs : List Int} {j : Nat} (h : xs.length ≤ j) : xs.drop j = [] := List.drop_eq_nil_of_le h
theorem drw_below {n : Nat} {A B : World} (h : Below n A B) : Below n A B.drew := ⟨h.os, h.tape, h.output, h.size, fun k hk => h.block k hk⟩
theorem getD_at {xs : List Int} {j : Nat} (h : j < xs.length) : xs.getD j 0 = xs[j] := by rw [List.getD, List.getElem?_eq_getElem h]; rfl

set_option maxRecDepth 100000 in
set_option maxHeartbeats 1000000 in
theorem apart_any (xs ys : List Int) (v u : Value) (w : World) (hx : RdN w.heap.size w xs v) (hy : RdN w.heap.size w ys u) :
    Calls Tryd.prog 62 #[v, u] w fun e w' => e = .returned (.bool (apN xs ys)) ∧ Below w.heap.size w w' := by
  obtain ⟨a, c, rfl, h1, h2⟩ := hx
  obtain ⟨a', c', rfl, h3, h4⟩ := hy
  unfold maxLen at h1 h3
  have H2 := Lib.hid h2
  have H4 := Lib.hid h4
  clear h2 h4
  go_enter Tryd.func62, Tryd.ntmps62
  go_wp2_with fail
  go_loopw [11] (fun i wr => ∃ j : Nat, j ≤ xs.length ∧ j ≤ ys.length ∧ i = .int .i64 j ∧ Hid (apN xs ys = apN (xs.drop j) (ys.drop j)) ∧ Hid (Below w.heap.size w wr)) (fun i _ => xs.length - (intOf i).toNat)
  case atStart => exact ⟨0, Nat.zero_le _, Nat.zero_le _, rfl, rfl, Below.refl _ _⟩
  case round =>
    obtain ⟨j, hj1, hj2, rfl, hap, hB⟩ := hrel
    by_cases hlt : j < xs.length ∧ j < ys.length
    · obtain ⟨l1, l2⟩ := hlt
      have hmin : (j : Int) < min (xs.length : Int) (ys.length : Int) := by omega
      obtain ⟨b, off, rfl, hb, hc⟩ := H2.out (by omega)
      obtain ⟨b', off', rfl, hb', hc'⟩ := H4.out (by omega)
      have p0 := (Below.cell hB.out (p := ⟨b, off + j, none⟩) hb).trans (hc j l1)
      have q0 := (Below.cell hB.out (p := ⟨b', off' + j, none⟩) hb').trans (hc' j l2)
      rw [getD_at l1] at p0
      rw [getD_at l2] at q0
      have hbw : b < wr.heap.size := by have := Below.size hB.out; omega
      have hbw' : b' < wr.heap.size := by have := Below.size hB.out; omega
      have hjx : (j : Int) < (xs.length : Int) := by omega
      have hjy : (j : Int) < (ys.length : Int) := by omega
      clear hc hc'
      by_cases heq : xs[j] = ys[j]
      · have hs : Hid (apN xs ys = apN (xs.drop (j + 1)) (ys.drop (j + 1))) := by
          rw [Hid, hap.out, drop_step l1, drop_step l2, apN, heq]
          simp
        have hne : (xs[j] != ys[j]) = false := by simp [heq]
        clear heq hap
        go_wp2_with fail
        go_region
        go_wp2_with fail
        exact ⟨⟨j + 1, l1, l2, by go_num, hs, drw_below hB.out⟩, by simp [intOf]; omega⟩
      · have hs : Hid (apN xs ys = true) := by
          rw [Hid, hap.out, drop_step l1, drop_step l2, apN]
          simp [heq]
        have hne : (xs[j] != ys[j]) = true := by simp [heq]
        clear heq hap
        go_wp2_with fail
        go_region
        go_wp2_with fail
        go_ret
        exact ⟨retB hs.out, drw_below hB.out⟩
    · have hmin : ¬ (j : Int) < min (xs.length : Int) (ys.length : Int) := by omega
      have hs : Hid (apN xs ys = false) := by
        rw [Hid, hap.out]
        by_cases e : j < xs.length
        · rw [drop_none (xs := ys) (by omega), drop_step e]; rfl
        · rw [drop_none (xs := xs) (by omega)]; rfl
      clear hap hlt
      go_wp2_with fail
      go_ret
      exact ⟨retB hs.out, hB.out⟩

set_option maxRecDepth 100000 in
set_option maxHeartbeats 1000000 in
theorem cmpSl_any (xs ys : List Int) (v u : Value) (w : World) (hx : RdN w.heap.size w xs v) (hy : RdN w.heap.size w ys u) :
    Calls Tryd.prog 61 #[v, u] w fun e w' => e = .returned (.int .i64 (cmpN xs ys)) ∧ Below w.heap.size w w' := by
  obtain ⟨a, c, rfl, h1, h2⟩ := hx
  obtain ⟨a', c', rfl, h3, h4⟩ := hy
  unfold maxLen at h1 h3
  have H2 := Lib.hid h2
  have H4 := Lib.hid h4
  clear h2 h4
  go_enter Tryd.func61, Tryd.ntmps61
  go_wp2_with fail
  go_loopw [11] (fun i wr => ∃ j : Nat, j ≤ xs.length ∧ j ≤ ys.length ∧ i = .int .i64 j ∧ Hid (cmpN xs ys = cmpN (xs.drop j) (ys.drop j)) ∧ Hid (Below w.heap.size w wr)) (fun i _ => xs.length - (intOf i).toNat)
  case atStart => exact ⟨0, Nat.zero_le _, Nat.zero_le _, rfl, rfl, Below.refl _ _⟩
  case round =>
    obtain ⟨j, hj1, hj2, rfl, hap, hB⟩ := hrel
    by_cases l1 : j < xs.length
    · obtain ⟨b, off, rfl, hb, hc⟩ := H2.out (by omega)
      have p0 := (Below.cell hB.out (p := ⟨b, off + j, none⟩) hb).trans (hc j l1)
      rw [getD_at l1] at p0
      have hbw : b < wr.heap.size := by have := Below.size hB.out; omega
      have hjx : (j : Int) < (xs.length : Int) := by omega
      clear hc
      by_cases l2 : j < ys.length
      · obtain ⟨b', off', rfl, hb', hc'⟩ := H4.out (by omega)
        have q0 := (Below.cell hB.out (p := ⟨b', off' + j, none⟩) hb').trans (hc' j l2)
        rw [getD_at l2] at q0
        have hbw' : b' < wr.heap.size := by have := Below.size hB.out; omega
        have hjy : (j : Int) < (ys.length : Int) := by omega
        have hs0 : cmpN xs ys = if Lib.compareInt xs[j] ys[j] = 0 then cmpN (xs.drop (j + 1)) (ys.drop (j + 1)) else Lib.compareInt xs[j] ys[j] := by
          rw [hap.out, drop_step l1, drop_step l2, cmpN]
        have HS := Lib.hid hs0
        clear hc' hs0 hap
        go_wp2_with fail
        refine (Tryd.cmp_Compare_int _ _ _).mono ?_
        rintro e w' ⟨rfl, rfl⟩
        by_cases hz : Lib.compareInt xs[j] ys[j] = 0
        · have hs : Hid (cmpN xs ys = cmpN (xs.drop (j + 1)) (ys.drop (j + 1))) := by rw [Hid, HS.out, if_pos hz]
          rw [hz]
          clear HS hz
          go_wp2_with fail
          exact ⟨⟨j + 1, l1, l2, by go_num, hs, hB⟩, by simp [intOf]; omega⟩
        · have hs : Hid (cmpN xs ys = Lib.compareInt xs[j] ys[j]) := by rw [Hid, HS.out, if_neg hz]
          have hnz : (Lib.compareInt xs[j] ys[j] != 0) = true := by simp [hz]
          generalize Lib.compareInt xs[j] ys[j] = z at *
          clear HS hz
          go_wp2_with fail
          go_ret
          exact ⟨by rw [hs.out]; rfl, hB.out⟩
      · have hjy : (j : Int) ≥ (ys.length : Int) := by omega
        have hs : Hid (cmpN xs ys = 1) := by
          rw [Hid, hap.out, drop_none (xs := ys) (by omega), drop_step l1]; rfl
        clear hap
        go_wp2_with fail
        go_ret
        exact ⟨by rw [hs.out]; rfl, hB.out⟩
    · have hjx : ¬ (j : Int) < (xs.length : Int) := by omega
      obtain rfl : j = xs.length := by omega
      by_cases l2 : xs.length < ys.length
      · have hs : Hid (cmpN xs ys = -1) := by
          rw [Hid, hap.out, List.drop_length, drop_step l2]; rfl
        have hxy : (xs.length : Int) < (ys.length : Int) := by omega
        clear hap
        go_wp2_with fail
        go_ret
        exact ⟨by rw [hs.out]; rfl, hB.out⟩
      · have hs : Hid (cmpN xs ys = 0) := by
          rw [Hid, hap.out, List.drop_length, drop_none (xs := ys) (by omega)]; rfl
        have hxy : ¬ (xs.length : Int) < (ys.length : Int) := by omega
        clear hap
        go_wp2_with fail
        go_ret
        exact ⟨by rw [hs.out]; rfl, hB.out⟩
end Go.Proofs.YtdigiaigbcfccaaDoor
