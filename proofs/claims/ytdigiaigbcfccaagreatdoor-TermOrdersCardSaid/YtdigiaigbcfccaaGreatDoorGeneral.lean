import Derived.Lib.ItoaLen
import Derived.Test.YtdigiaigbcfccaaGreatDoorGen
import Derived.Test.YtdigiaigbcfccaaGreatDoorCount
namespace Go.Proofs.YtdigiaigbcfccaaGreatDoor
open Go.RowKit Go

theorem loop_len (s : ByteArray) : ∀ (d i : Nat) (r : List UInt8), s.size - i = d → (ByteArray.toList.loop s i r).length = r.length + d := by
  intro d
  induction d with
  | zero =>
    intro i r h
    rw [ByteArray.toList.loop]
    rw [if_neg (by omega)]
    simp
  | succ d ih =>
    intro i r h
    rw [ByteArray.toList.loop]
    rw [if_pos (by omega)]
    rw [ih (i + 1) _ (by omega)]
    simp; omega
theorem toList_nil {s : ByteArray} (h : s.toList = []) : s.size = 0 := by
  have := loop_len s s.size 0 [] (by omega)
  rw [ByteArray.toList] at h
  rw [h] at this
  simpa using this.symm
theorem nodeB_size {k n : Int} {s : ByteArray} {len : Nat} (h : nodeB k n s len = true) : s.size ≤ 255 := by
  unfold nodeB at h
  repeat' split at h
  all_goals simp only [Bool.and_eq_true, decide_eq_true_eq, Bool.false_eq_true] at h
  · have := toList_nil h.1.2; omega
  · have := toList_nil h.1.2; omega
  · have := h.1.2; simp only [nameB, Bool.and_eq_true, decide_eq_true_eq] at this; omega
  · omega
  · have := h.1.1.2; simp only [nameB, Bool.and_eq_true, decide_eq_true_eq] at this; omega
  · have := toList_nil h.1.2; omega
theorem nodeB_kind {k n : Int} {s : ByteArray} {len : Nat} (h : nodeB k n s len = true) : 1 ≤ k ∧ k ≤ 6 := by
  unfold nodeB at h
  repeat' split at h
  all_goals first | omega | cases h
theorem numT_le {x : Int} (h : okI x) : (numT x).length ≤ 22 := by rw [numT_length]; have := Lib.itoa_length_le x h.1 h.2; omega
mutual
theorem textT_le : ∀ T : Tr, T.good = true → T.ok → T.size ≤ 1000000 → (textT T).length ≤ T.size * 400
  | .node k n s l, h, ho, hs => by
    simp only [Tr.good, Bool.and_eq_true] at h
    simp only [Tr.ok] at ho
    simp only [Tr.size] at hs ⊢
    have h1 := nodeB_size h.1
    have h0 := nodeB_kind h.1
    have h2 := textL_le l h.2 ho.2 (by omega)
    have h3 := length_le_sizeL l
    have e : s.data.toList.length = s.size := by simp only [ByteArray.size, Array.length_toList]
    have k1 := numT_le (x := k) (by unfold okI; omega)
    have k2 := numT_le ho.1
    have k3 := numT_le (x := l.length) (by unfold okI; omega)
    have k4 := numT_le (x := s.size) (by unfold okI; omega)
    simp only [textT, List.length_append]
    omega
theorem textL_le : ∀ l : List Tr, goodL l = true → okL l → sizeL l ≤ 1000000 → (textL l).length ≤ sizeL l * 400
  | [], _, _, _ => by simp [textL]
  | t :: ts, h, ho, hs => by
    simp only [goodL, Bool.and_eq_true] at h
    simp only [okL] at ho
    simp only [sizeL] at hs ⊢
    have h1 := textT_le t h.1 ho.1 (by omega)
    have h2 := textL_le ts h.2 ho.2 (by omega)
    simp only [textL, List.length_append]
    omega
end
theorem isB_text {T : Tr} {n₀ : Nat} {W : World} {v : Value} (h : isB T = true) (hT : IsT n₀ W T v) : (textT T).length ≤ 2000000 := by
  rw [isB_good] at h
  simp only [Bool.and_eq_true, decide_eq_true_eq] at h
  have := textT_le T h.2 (IsT.ok T v hT) (by omega)
  omega

def genR (T U : Tr) : Tr := if isB T && isB U then (genT T U []).1 else zeroTr
def GeneralPost (T U : Tr) (w : World) (e : Ending) (w' : World) : Prop := Below w.heap.size w w' ∧ ∃ v, e = .returned (.tuple #[v, .int .i64 (errI (isB T && isB U))]) ∧ IsP (New w.heap.size w') w' (genR T U) v

set_option maxRecDepth 100000 in
set_option maxHeartbeats 2000000 in
theorem General_any (T U : Tr) (v u : Value) (w : World) (hv : IsT w.heap.size w T v) (hu : IsT w.heap.size w U u) (hdT : T.deep ≤ 999999999) (hdU : U.deep ≤ 999999999) (htab : Lib.TabBelow Tryz.prog w.heap.size w "internal/strconv.uint64pow10" .u64 Lib.pow10Tab) :
    Calls Tryz.prog 27 #[v, u] w (GeneralPost T U w) := by
  cases hTc : T with
  | node k n s l =>
  cases hUc : U with
  | node k' n' s' l' =>
  subst hTc hUc
  have hv' := hv
  have hu' := hu
  obtain ⟨a, c, rfl, _⟩ := hv'.open
  obtain ⟨a', c', rfl, _⟩ := hu'.open
  clear hv' hu'
  have HV := Lib.hid hv
  have HU := Lib.hid hu
  clear hv hu
  have b0 : Box ((((w.alloc (.cells #[.int .i64 k, .int .i64 n, .string s, .slice a l.length c] 24)).alloc (.cells #[.int .i64 k', .int .i64 n', .string s', .slice a' l'.length c'] 24)).alloc (.cells #[.int .i64 0, .int .i64 0, .string ⟨#[]⟩, .slice none 0 0] 24)).alloc (.cells #[.int .i64 k, .int .i64 n, .string s, .slice a l.length c, .int .i64 k', .int .i64 n', .string s', .slice a' l'.length c'] 24)) w.heap.size #[.int .i64 k, .int .i64 n, .string s, .slice a l.length c] 24 := (((Box.at rfl).alloc _).alloc _).alloc _
  have b1 : Box ((((w.alloc (.cells #[.int .i64 k, .int .i64 n, .string s, .slice a l.length c] 24)).alloc (.cells #[.int .i64 k', .int .i64 n', .string s', .slice a' l'.length c'] 24)).alloc (.cells #[.int .i64 0, .int .i64 0, .string ⟨#[]⟩, .slice none 0 0] 24)).alloc (.cells #[.int .i64 k, .int .i64 n, .string s, .slice a l.length c, .int .i64 k', .int .i64 n', .string s', .slice a' l'.length c'] 24)) (w.heap.size + 1) #[.int .i64 k', .int .i64 n', .string s', .slice a' l'.length c'] 24 := ((Box.at (by simp)).alloc _).alloc _
  have b2 : Box ((((w.alloc (.cells #[.int .i64 k, .int .i64 n, .string s, .slice a l.length c] 24)).alloc (.cells #[.int .i64 k', .int .i64 n', .string s', .slice a' l'.length c'] 24)).alloc (.cells #[.int .i64 0, .int .i64 0, .string ⟨#[]⟩, .slice none 0 0] 24)).alloc (.cells #[.int .i64 k, .int .i64 n, .string s, .slice a l.length c, .int .i64 k', .int .i64 n', .string s', .slice a' l'.length c'] 24)) (w.heap.size + 1 + 1) #[.int .i64 0, .int .i64 0, .string ⟨#[]⟩, .slice none 0 0] 24 := (Box.at (by simp)).alloc _
  have hblk : Box ((((w.alloc (.cells #[.int .i64 k, .int .i64 n, .string s, .slice a l.length c] 24)).alloc (.cells #[.int .i64 k', .int .i64 n', .string s', .slice a' l'.length c'] 24)).alloc (.cells #[.int .i64 0, .int .i64 0, .string ⟨#[]⟩, .slice none 0 0] 24)).alloc (.cells #[.int .i64 k, .int .i64 n, .string s, .slice a l.length c, .int .i64 k', .int .i64 n', .string s', .slice a' l'.length c'] 24)) (w.heap.size + 1 + 1 + 1) #[.int .i64 k, .int .i64 n, .string s, .slice a l.length c, .int .i64 k', .int .i64 n', .string s', .slice a' l'.length c'] 24 := Box.at (by simp)
  have hB0 := below_a4 (Nat.le_refl w.heap.size) (.cells #[.int .i64 k, .int .i64 n, .string s, .slice a l.length c] 24) (.cells #[.int .i64 k', .int .i64 n', .string s', .slice a' l'.length c'] 24) (.cells #[.int .i64 0, .int .i64 0, .string ⟨#[]⟩, .slice none 0 0] 24) (.cells #[.int .i64 k, .int .i64 n, .string s, .slice a l.length c, .int .i64 k', .int .i64 n', .string s', .slice a' l'.length c'] 24)
  go_enter Tryz.func27, Tryz.ntmps27
  go_wp2_with fail
  refine (checkEach_any [.node k n s l, .node k' n' s' l'] (some ⟨w.heap.size + 1 + 1 + 1, 0, none⟩) 2 _ (by unfold maxLen; simp) ?_ (by intro t ht; simp at ht; rcases ht with rfl | rfl <;> assumption)).mono ?_
  · exact IsL.cons (by simp) (hblk.cell 0) (hblk.cell 1) (hblk.cell 2) (hblk.cell 3) (HV.out.up hB0 (by simp; omega))
      (IsL.cons (by simp) (hblk.cell 4) (hblk.cell 5) (hblk.cell 6) (hblk.cell 7) (HU.out.up hB0 (by simp; omega)) IsL.nil)
  rintro e w1 ⟨rfl, hB1⟩
  replace b0 := Box.keep hB1 b0
  replace b1 := Box.keep hB1 b1
  replace b2 := Box.keep hB1 b2
  replace hB0 := hB0.trans (hB1.mono hB0.size)
  have hbT : [Tr.node k n s l, .node k' n' s' l'].all isB = (isB (.node k n s l) && isB (.node k' n' s' l')) := by simp
  rw [hbT]
  clear hB1 hblk hbT
  have u0 := b2.cell 0
  have u1 := b2.cell 1
  have u2 := b2.cell 2
  have u3 := b2.cell 3
  have g0 := b2.frozen 0
  have g1 := b2.frozen 1
  have g2 := b2.frozen 2
  have g3 := b2.frozen 3
  have l2 := b2.lt
  simp only [List.getElem?_toArray, List.getElem?_cons_succ, List.getElem?_cons_zero] at u0 u1 u2 u3
  cases hb : (isB (.node k n s l) && isB (.node k' n' s' l')) with
  | false =>
    have hR : Hid (genR (.node k n s l) (.node k' n' s' l') = zeroTr) := by rw [Hid, genR, hb]; rfl
    have HB := Lib.hid hB0
    have Hb := Lib.hid hb
    clear hb hB0
    go_wp2_with fail
    have z := (((b2.set 0 (.int .i64 0)).set 1 (.int .i64 0)).set 2 (.string ⟨#[]⟩)).set 3 (.slice none 0 0)
    have y0 := z.cell 0
    have y1 := z.cell 1
    have y2 := z.cell 2
    have y3 := z.cell 3
    have zB := (((HB.out.setCell (p := ⟨w.heap.size + 1 + 1, 0, none⟩) (by simp; omega) (.int .i64 0)).setCell (p := ⟨w.heap.size + 1 + 1, 1, none⟩) (by simp; omega) (.int .i64 0)).setCell (p := ⟨w.heap.size + 1 + 1, 2, none⟩) (by simp; omega) (.string ⟨#[]⟩)).setCell (p := ⟨w.heap.size + 1 + 1, 3, none⟩) (by simp; omega) (.slice none 0 0)
    clear z
    generalize ((((w1.setCell ⟨w.heap.size + 1 + 1, 0, none⟩ (.int .i64 0)).setCell ⟨w.heap.size + 1 + 1, 1, none⟩ (.int .i64 0)).setCell ⟨w.heap.size + 1 + 1, 2, none⟩ (.string ⟨#[]⟩)).setCell ⟨w.heap.size + 1 + 1, 3, none⟩ (.slice none 0 0)) = FW at *
    simp at y0 y1 y2 y3
    refine bodyPost_ret (v := .tuple #[.agg #[.int .i64 0, .int .i64 0, .string ⟨#[]⟩, .slice none 0 0], .int .i64 3]) (by simp [results, Tryz.results27, go_sem, y0, y1, y2, y3, errI]) rfl ⟨zB, .agg #[.int .i64 0, .int .i64 0, .string ⟨#[]⟩, .slice none 0 0], ?_, ?_⟩
    · rw [Hb.out]; rfl
    · rw [hR.out]
      exact zero_isP _ _
  | true =>
    have hR : Hid (genR (.node k n s l) (.node k' n' s' l') = (genT (.node k n s l) (.node k' n' s' l') []).1) := by rw [Hid, genR, hb]; rfl
    have Hb := Lib.hid hb
    rw [Bool.and_eq_true] at hb
    have ht1 := isB_text hb.1 HV.out
    have ht2 := isB_text hb.2 HU.out
    have hz1 := (isB_size hb.1).1
    have HZ := Lib.hid (And.intro (And.intro ht1 ht2) hz1)
    have HB := Lib.hid hB0
    have t0 := b0.cell 0
    have t1 := b0.cell 1
    have t2 := b0.cell 2
    have t3 := b0.cell 3
    have v0 := b1.cell 0
    have v1 := b1.cell 1
    have v2 := b1.cell 2
    have v3 := b1.cell 3
    have l0 := b0.lt
    have l1 := b1.lt
    simp only [List.getElem?_toArray, List.getElem?_cons_succ, List.getElem?_cons_zero] at t0 t1 t2 t3 v0 v1 v2 v3
    clear hb hB0 ht1 ht2 hz1
    have hmm := @run_makeMap Tryz.prog
    go_wp2_with fail
    clear hmm
    have hBm := HB.out.trans (below_a1 HB.out.size (.map #[] 0))
    refine (general_any w1.heap.size (.node k n s l) (.node k' n' s' l') _ _ [] _ (HV.out.up hBm hBm.size) (HU.out.up hBm hBm.size) (Dict.made w1) (by simp; have := HZ.out.2; omega) (by have := HZ.out.1; omega) (fun w'' h => htab w'' (hBm.trans (h.mono hBm.size)))).mono ?_
    rintro e w5 ⟨gv, rfl, hP, hD, hG⟩
    have b5 : Box w5 (w.heap.size + 1 + 1) #[.int .i64 0, .int .i64 0, .string ⟨#[]⟩, .slice none 0 0] 24 := (hG.block _ (by simp; omega) (by simp; omega)).trans (b2.alloc _)
    have hB5 : Below w.heap.size w w5 := hBm.trans (grown_below hG hBm.size (by have := HB.out.size; omega))
    have hs5 := hG.size
    simp only [World.size_alloc] at hs5
    cases hr : (genT (.node k n s l) (.node k' n' s' l') []).1 with
    | node rk rn rs rl =>
    rw [hr] at hP
    have hP' := hP
    obtain ⟨ra, rc, e, p1, p2, p3, p4, p5, p6⟩ := hP'.open
    subst e
    have HP := Lib.hid (And.intro p1 (And.intro p2 (And.intro p3 (And.intro p4 (And.intro p5 (And.intro p6 (And.intro b5 (And.intro hB5 hr))))))))
    clear hP hP' hD hG u0 u1 u2 u3 g0 g1 g2 g3 t0 t1 t2 t3 v0 v1 v2 v3 b0 b1 b2 hr p1 p2 p3 p4 p5 p6
    have u0 := b5.cell 0
    have u1 := b5.cell 1
    have u2 := b5.cell 2
    have u3 := b5.cell 3
    have g0 := b5.frozen 0
    have g1 := b5.frozen 1
    have g2 := b5.frozen 2
    have g3 := b5.frozen 3
    simp only [List.getElem?_toArray, List.getElem?_cons_succ, List.getElem?_cons_zero] at u0 u1 u2 u3
    clear b5 hB5
    go_wp2_with fail
    obtain ⟨p1, p2, p3, p4, p5, p6, b5, hB5, hr⟩ := HP.out
    have z := (((b5.set 0 (.int .i64 rk)).set 1 (.int .i64 rn)).set 2 (.string rs)).set 3 (.slice ra rl.length rc)
    have y0 := z.cell 0
    have y1 := z.cell 1
    have y2 := z.cell 2
    have y3 := z.cell 3
    have zB := (((hB5.setCell (p := ⟨w.heap.size + 1 + 1, 0, none⟩) (by simp; omega) (.int .i64 rk)).setCell (p := ⟨w.heap.size + 1 + 1, 1, none⟩) (by simp; omega) (.int .i64 rn)).setCell (p := ⟨w.heap.size + 1 + 1, 2, none⟩) (by simp; omega) (.string rs)).setCell (p := ⟨w.heap.size + 1 + 1, 3, none⟩) (by simp; omega) (.slice ra rl.length rc)
    have zP := IsPL.map (q := New w.heap.size ((((w5.setCell ⟨w.heap.size + 1 + 1, 0, none⟩ (.int .i64 rk)).setCell ⟨w.heap.size + 1 + 1, 1, none⟩ (.int .i64 rn)).setCell ⟨w.heap.size + 1 + 1, 2, none⟩ (.string rs)).setCell ⟨w.heap.size + 1 + 1, 3, none⟩ (.slice ra rl.length rc))) (B := ((((w5.setCell ⟨w.heap.size + 1 + 1, 0, none⟩ (.int .i64 rk)).setCell ⟨w.heap.size + 1 + 1, 1, none⟩ (.int .i64 rn)).setCell ⟨w.heap.size + 1 + 1, 2, none⟩ (.string rs)).setCell ⟨w.heap.size + 1 + 1, 3, none⟩ (.slice ra rl.length rc)))
      (fun b hb => by
        obtain ⟨hb1, hb2⟩ := hb
        simp only [World.size_alloc] at hb1
        refine ⟨⟨by omega, by simpa using hb2⟩, ?_⟩
        rw [Below.heap_setCell _ _ _ _ (by simp; omega), Below.heap_setCell _ _ _ _ (by simp; omega), Below.heap_setCell _ _ _ _ (by simp; omega), Below.heap_setCell _ _ _ _ (by simp; omega)]) rl ra p6
    clear z b5 hB5 p6
    generalize ((((w5.setCell ⟨w.heap.size + 1 + 1, 0, none⟩ (.int .i64 rk)).setCell ⟨w.heap.size + 1 + 1, 1, none⟩ (.int .i64 rn)).setCell ⟨w.heap.size + 1 + 1, 2, none⟩ (.string rs)).setCell ⟨w.heap.size + 1 + 1, 3, none⟩ (.slice ra rl.length rc)) = FW at *
    simp at y0 y1 y2 y3
    refine bodyPost_ret (v := .tuple #[.agg #[.int .i64 rk, .int .i64 rn, .string rs, .slice ra rl.length rc], .int .i64 0]) (by simp [results, Tryz.results27, go_sem, y0, y1, y2, y3]) rfl ⟨zB, .agg #[.int .i64 rk, .int .i64 rn, .string rs, .slice ra rl.length rc], ?_, ?_⟩
    · rw [Hb.out]; rfl
    · rw [hR.out, hr]
      exact IsP.mk p1 p2 p3 p4 p5 zP
end Go.Proofs.YtdigiaigbcfccaaGreatDoor
