/- Where the node at a place lies: nodeAt. -/
import Derived.Test.YtdigiaigbcfccaaDoorNodeR
import Derived.Test.YtdigiaigbcfccaaDoorRefAt
namespace Go.Proofs.YtdigiaigbcfccaaDoor
open Go.RowKit Go

/-- Four cells from an address on. -/
def Four (W : World) (B o : Nat) (v0 v1 v2 v3 : Value) : Prop := W.cell? ⟨B, o, none⟩ = some v0 ∧ W.cell? ⟨B, o + 1, none⟩ = some v1 ∧ W.cell? ⟨B, o + 2, none⟩ = some v2 ∧ W.cell? ⟨B, o + 3, none⟩ = some v3
/-- From four cells, along a place, to four cells. -/
def Leads (W : World) : Nat → Nat → List Int → Nat → Nat → Prop
  | B, o, [], B', o' => B' = B ∧ o' = o
  | B, o, i :: p, B', o' => ∃ b off m c, W.cell? ⟨B, o + 3, none⟩ = some (.slice (some ⟨b, off, none⟩) m c) ∧ Leads W b (off + i.toNat * 4) p B' o'
theorem Leads.keep {A W : World} (hb : Below A.heap.size A W) : ∀ {p : List Int} {B o B' o' : Nat}, Leads A B o p B' o' → Leads W B o p B' o'
  | [], _, _, _, _, h => h
  | _ :: _, _, _, _, _, h => by
    obtain ⟨b, off, m, c, h1, h2⟩ := h
    exact ⟨b, off, m, c, (hb.cell (World.block_lt_of_cell? _ _ h1)).trans h1, h2.keep hb⟩
/-- What nodeAt hands back: the address of the node's cells. -/
def NaPost (n₀ : Nat) (Bs os : Nat) (p : List Int) (T : Tr) (w : World) (e : Ending) (w' : World) : Prop := Below w.heap.size w w' ∧ match nodT p T with
  | none => e = .returned (.pointer none)
  | some Y => ∃ B o k n s a m c, e = .returned (.pointer (some ⟨B, o, none⟩)) ∧ B < w.heap.size ∧ Four w' B o (.int .i64 k) (.int .i64 n) (.string s) (.slice a m c) ∧ IsT n₀ w' Y (.agg #[.int .i64 k, .int .i64 n, .string s, .slice a m c]) ∧ Leads w' Bs os p B o
structure NaAt (n₀ : Nat) (Bs os : Nat) (p : List Int) (T : Tr) (w : World) (j : Nat) (B o : Nat) (k n : Int) (s : ByteArray) (ts : List Tr) (a : Option Addr) (c : Nat) (wr : World) : Prop where
  eq : nodT p T = nodT (p.drop j) (.node k n s ts)
  way : ∀ B' o', Leads w B o (p.drop j) B' o' → Leads w Bs os p B' o'
  lt : B < w.heap.size
  four : Four w B o (.int .i64 k) (.int .i64 n) (.string s) (.slice a ts.length c)
  tree : IsT n₀ w (.node k n s ts) (.agg #[.int .i64 k, .int .i64 n, .string s, .slice a ts.length c])
  below : Below w.heap.size w wr
theorem Four.keep {W V : World} {B o : Nat} {v0 v1 v2 v3 : Value} (h : Four W B o v0 v1 v2 v3) (hb : Below W.heap.size W V) (hB : B < W.heap.size) : Four V B o v0 v1 v2 v3 :=
  ⟨(Below.cell hb (p := ⟨B, o, none⟩) hB).trans h.1, (Below.cell hb (p := ⟨B, o + 1, none⟩) hB).trans h.2.1, (Below.cell hb (p := ⟨B, o + 2, none⟩) hB).trans h.2.2.1, (Below.cell hb (p := ⟨B, o + 3, none⟩) hB).trans h.2.2.2⟩

set_option maxRecDepth 100000 in
set_option maxHeartbeats 4000000 in
theorem nodeAt_any (n₀ : Nat) (T : Tr) (p : List Int) (B o : Nat) (u v0 v1 v2 v3 : Value) (w : World) (hn₀ : n₀ ≤ w.heap.size) (hB : B < w.heap.size) (h4 : Four w B o v0 v1 v2 v3) (hT : IsT n₀ w T (.agg #[v0, v1, v2, v3])) (hp : RdN w.heap.size w p u) :
    Calls Tryd.prog 86 #[.pointer (some ⟨B, o, none⟩), u] w (NaPost n₀ B o p T w) := by
  cases hTc : T with
  | node k n s ts =>
  subst hTc
  have hT' := hT
  obtain ⟨a', c', he, _⟩ := hT'.open
  clear hT'
  simp only [Value.agg.injEq, Array.mk.injEq, List.cons.injEq, and_true] at he
  obtain ⟨rfl, rfl, rfl, rfl⟩ := he
  obtain ⟨pa, pc, rfl, hpl, hpc⟩ := hp
  have hlm : p.length ≤ 9223372036854775807 := by unfold maxLen at hpl; omega
  have hI0 : NaAt n₀ B o p (.node k n s ts) w 0 B o k n s ts a' c' w := ⟨rfl, fun _ _ h => h, hB, h4, hT, Below.refl _ _⟩
  have HI0 := Lib.hid hI0
  have HP := Lib.hid hpc
  clear hI0 hT hpc h4
  go_enter Tryd.func86, Tryd.ntmps86
  go_wp2_with fail
  go_loopw [0, 9] (fun pv iv wr => ∃ (j B1 o1 : Nat) (k1 n1 : Int) (s1 : ByteArray) (l1 : List Tr) (a1 : Option Addr) (c1 : Nat), j ≤ p.length ∧ iv = .int .i64 j ∧ pv = .pointer (some ⟨B1, o1, none⟩) ∧ NaAt n₀ B o p (.node k n s ts) w j B1 o1 k1 n1 s1 l1 a1 c1 wr) (fun _ iv _ => p.length - (intOf iv).toNat)
  case atStart => exact ⟨0, _, _, _, _, _, _, _, _, Nat.zero_le _, by go_num, rfl, HI0.out⟩
  case round =>
    obtain ⟨j, B1, o1, k1, n1, s1, l1, a1, c1, hj, rfl, rfl, hA⟩ := hrel
    have HA := Lib.hid hA
    have hw := hA.below.size
    obtain ⟨q0, q1, q2, q3⟩ := hA.four.keep hA.below hA.lt
    have hltB := hA.lt
    obtain ⟨a3, c3, he, _, _, _, h4, h5, hL⟩ := hA.tree.open
    cases he
    have hm : l1.length ≤ maxLen := Nat.le_trans h4 h5
    have hm' : l1.length ≤ 9223372036854775807 := by unfold maxLen at hm; omega
    have HL := Lib.hid hL
    clear hA hL
    by_cases hlt : j < p.length
    · obtain ⟨b, off, rfl, hbl, hcells⟩ := HP.out (by omega)
      have hx := (Below.cell HA.out.below (p := ⟨b, off + j, none⟩) hbl).trans (hcells j hlt)
      have hst := nodT_step hlt (.node k1 n1 s1 l1)
      have hgd : p[j] = p.getD j 0 := by rw [List.getD, List.getElem?_eq_getElem hlt]; rfl
      have HGD := Lib.hid hgd
      clear hgd
      generalize p.getD j 0 = x at *
      have hbw : b < wr.heap.size := by omega
      have HST := Lib.hid (And.intro hst hcells)
      clear hst hcells
      by_cases hx0 : x < 0
      · have hk := kidT_neg (t := .node k1 n1 s1 l1) hx0
        have hnone : nodT p (.node k n s ts) = none := by rw [HA.out.eq, HST.out.1, hk]; rfl
        have HNN := Lib.hid hnone
        clear hnone
        go_wp2_with fail
        go_ret
        exact ⟨HA.out.below, by rw [HNN.out]; rfl⟩
      · have hx1 : decide (x < 0) = false := by simpa using hx0
        by_cases hx2 : (l1.length : Int) ≤ x
        · have hk := kidT_over (t := .node k1 n1 s1 l1) hx2
          have hx3 : decide (x ≥ (l1.length : Int)) = true := by simpa using hx2
          have hnone : nodT p (.node k n s ts) = none := by rw [HA.out.eq, HST.out.1, hk]; rfl
          have HNN := Lib.hid hnone
          clear hnone
          go_wp2_with fail
          go_ret
          exact ⟨HA.out.below, by rw [HNN.out]; rfl⟩
        · have hx3 : decide (x ≥ (l1.length : Int)) = false := by simpa using hx2
          obtain ⟨q, rfl⟩ : ∃ q : Nat, x = (q : Int) := ⟨x.toNat, by omega⟩
          have hq : q < l1.length := by omega
          obtain ⟨b2, off2, rfl, hb2⟩ := HL.out.addr (by omega)
          obtain ⟨tk, tn, tss, tl, ta, tc, te, d0, d1, d2, d3, ht⟩ := HL.out.node' hb2 (Below.refl _ _) q hq
          have hk := kidT_some (t := .node k1 n1 s1 l1) (i := (q : Int)) (by omega) (by simpa [kidsT] using hq)
          have hI : NaAt n₀ B o p (.node k n s ts) w (j + 1) b2 (off2 + q * 4) tk tn tss tl ta tc wr := by
            refine ⟨?_, ?_, by omega, ⟨d0, d1, d2, d3⟩, ?_, HA.out.below⟩
            · rw [HA.out.eq, HST.out.1, hk, ← te]; rfl
            · intro B' o' h
              refine HA.out.way B' o' ?_
              rw [List.drop_eq_getElem_cons hlt, HGD.out]
              exact ⟨b2, off2, _, _, HA.out.four.2.2.2, by simpa using h⟩
            · rw [← te]; exact ht
          have HI := Lib.hid hI
          clear hI d0 d1 d2 d3 te ht
          go_wp2_with fail
          exact ⟨⟨j + 1, _, _, _, _, _, _, _, _, by omega, by go_num, rfl, HI.out⟩, by simp [intOf]; omega⟩
    · obtain rfl : j = p.length := by omega
      have hn : nodT p (.node k n s ts) = some (.node k1 n1 s1 l1) := by rw [HA.out.eq, List.drop_length]; rfl
      have HNN := Lib.hid hn
      clear hn
      go_wp2_with fail
      go_ret
      refine ⟨HA.out.below, ?_⟩
      rw [HNN.out]
      exact ⟨B1, o1, k1, n1, s1, _, _, _, rfl, hltB, HA.out.four.keep HA.out.below HA.out.lt, HA.out.tree.below (HA.out.below.mono hn₀), (HA.out.way B1 o1 (by rw [List.drop_length]; exact ⟨rfl, rfl⟩)).keep HA.out.below⟩
end Go.Proofs.YtdigiaigbcfccaaDoor

/- At. -/
namespace Go.Proofs.YtdigiaigbcfccaaDoor
open Go.RowKit Go

theorem kidT_mem {t X : Tr} {i : Int} (h : kidT t i = some X) : X ∈ kidsT t := by
  rw [kidT] at h
  split at h
  · exact List.mem_of_getElem? h
  · cases h
theorem nodT_size : ∀ (p : List Int) {T Y : Tr}, nodT p T = some Y → Y.size ≤ T.size
  | [], _, _, h => by cases h; exact Nat.le_refl _
  | i :: p, T, Y, h => by
    rw [nodT] at h
    cases hk : kidT T i with
    | none => rw [hk] at h; cases h
    | some X =>
      rw [hk] at h
      have h1 := nodT_size p (T := X) h
      have h2 := size_mem (kidT_mem hk)
      cases T with
      | node k n s l => simp only [kidsT] at h2; simp only [Tr.size]; omega
set_option maxRecDepth 100000 in
set_option maxHeartbeats 4000000 in
theorem At_any (X : Tr) (p : List Int) (v u : Value) (w : World) (hx : IsT w.heap.size w X v) (hp : RdN w.heap.size w p u) (hsx : X.size ≤ 1000000) (hdx : X.deep ≤ 1000000) :
    Calls Tryd.prog 29 #[v, u] w (TaPost (atV p X) (atE p X) w) := by
  obtain ⟨k, n, s, a, m, c, rfl⟩ := (IsT.toP _ _ hx).form
  have bbx : Box (((w.alloc (.cells #[.int .i64 k, .int .i64 n, .string s, .slice a m c] 25)).alloc (.cells #[.int .i64 0, .int .i64 0, .string ⟨#[]⟩, .slice none 0 0] 25)).alloc (.cells #[.int .i64 k, .int .i64 n, .string s, .slice a m c] 25)) w.heap.size #[.int .i64 k, .int .i64 n, .string s, .slice a m c] 25 := ((Box.at rfl).alloc _).alloc _
  have bbz : Box (((w.alloc (.cells #[.int .i64 k, .int .i64 n, .string s, .slice a m c] 25)).alloc (.cells #[.int .i64 0, .int .i64 0, .string ⟨#[]⟩, .slice none 0 0] 25)).alloc (.cells #[.int .i64 k, .int .i64 n, .string s, .slice a m c] 25)) (w.heap.size + 1) #[.int .i64 0, .int .i64 0, .string ⟨#[]⟩, .slice none 0 0] 25 := (Box.at (by simp)).alloc _
  have bbs : Box (((w.alloc (.cells #[.int .i64 k, .int .i64 n, .string s, .slice a m c] 25)).alloc (.cells #[.int .i64 0, .int .i64 0, .string ⟨#[]⟩, .slice none 0 0] 25)).alloc (.cells #[.int .i64 k, .int .i64 n, .string s, .slice a m c] 25)) (w.heap.size + 1 + 1) #[.int .i64 k, .int .i64 n, .string s, .slice a m c] 25 := Box.at (by simp)
  have hb := below_a3 (Nat.le_refl w.heap.size) (.cells #[.int .i64 k, .int .i64 n, .string s, .slice a m c] 25) (.cells #[.int .i64 0, .int .i64 0, .string ⟨#[]⟩, .slice none 0 0] 25) (.cells #[.int .i64 k, .int .i64 n, .string s, .slice a m c] 25)
  have HX0 := Lib.hid hx
  replace hx := hx.up hb hb.size
  replace hp := hp.up hb hb.size
  have hck := checkEach_any [X] (some ⟨w.heap.size + 1 + 1, 0, none⟩) 1 (((w.alloc (.cells #[.int .i64 k, .int .i64 n, .string s, .slice a m c] 25)).alloc (.cells #[.int .i64 0, .int .i64 0, .string ⟨#[]⟩, .slice none 0 0] 25)).alloc (.cells #[.int .i64 k, .int .i64 n, .string s, .slice a m c] 25)) (by unfold maxLen; simp) (IsL.cons (by simp) (bbs.cell 0) (bbs.cell 1) (bbs.cell 2) (bbs.cell 3) hx IsL.nil) (by intro t ht; simp at ht; subst ht; omega)
  rw [show [X].all isB = isB X by simp] at hck
  have HCK := Lib.hid hck
  clear hck bbs
  go_enter Tryd.func29, Tryd.ntmps29
  go_wp2_with fail
  refine (HCK.out).mono ?_
  rintro e W1 ⟨rfl, B⟩
  replace bbx := Box.keep B bbx
  replace bbz := Box.keep B bbz
  replace hx := hx.up B B.size
  replace hp := hp.up B B.size
  replace hb := hb.trans (B.mono hb.size)
  clear B
  clear HCK hx
  cases hr : isB X with
  | false =>
    have HV : Hid (atV p X = zeroTr ∧ atE p X = 3) := atV_no hr
    clear hr
    rw [show errI false = 3 from rfl]
    have u0 := bbz.cell 0
    have u1 := bbz.cell 1
    have u2 := bbz.cell 2
    have u3 := bbz.cell 3
    have g0 := bbz.frozen 0
    have g1 := bbz.frozen 1
    have g2 := bbz.frozen 2
    have g3 := bbz.frozen 3
    have lz := bbz.lt
    simp only [List.getElem?_toArray, List.getElem?_cons_succ, List.getElem?_cons_zero] at u0 u1 u2 u3
    have z := bbz.four (.int .i64 0) (.int .i64 0) (.string ⟨#[]⟩) (.slice none 0 0)
    have zB := below_four hb (B := w.heap.size + 1) (by omega) (.int .i64 0) (.int .i64 0) (.string ⟨#[]⟩) (.slice none 0 0)
    have zT : IsT ((((W1.setCell ⟨w.heap.size + 1, 0, none⟩ (.int .i64 0)).setCell ⟨w.heap.size + 1, 1, none⟩ (.int .i64 0)).setCell ⟨w.heap.size + 1, 2, none⟩ (.string ⟨#[]⟩)).setCell ⟨w.heap.size + 1, 3, none⟩ (.slice none 0 0)).heap.size ((((W1.setCell ⟨w.heap.size + 1, 0, none⟩ (.int .i64 0)).setCell ⟨w.heap.size + 1, 1, none⟩ (.int .i64 0)).setCell ⟨w.heap.size + 1, 2, none⟩ (.string ⟨#[]⟩)).setCell ⟨w.heap.size + 1, 3, none⟩ (.slice none 0 0)) zeroTr (.agg #[.int .i64 0, .int .i64 0, .string ⟨#[]⟩, .slice none 0 0]) := zeroTa _ _
    have HZ := Lib.hid (And.intro zB zT)
    have y0 := z.cell 0
    have y1 := z.cell 1
    have y2 := z.cell 2
    have y3 := z.cell 3
    clear z zB zT
    go_wp2_with fail
    clear u0 u1 u2 u3 g0 g1 g2 g3
    generalize ((((W1.setCell ⟨w.heap.size + 1, 0, none⟩ (.int .i64 0)).setCell ⟨w.heap.size + 1, 1, none⟩ (.int .i64 0)).setCell ⟨w.heap.size + 1, 2, none⟩ (.string ⟨#[]⟩)).setCell ⟨w.heap.size + 1, 3, none⟩ (.slice none 0 0)) = FW at *
    simp at y0 y1 y2 y3
    exact bodyPost_ret (v := .tuple #[.agg #[.int .i64 0, .int .i64 0, .string ⟨#[]⟩, .slice none 0 0], .int .i64 3]) (by simp [results, Tryd.results29, go_sem, y0, y1, y2, y3]) rfl (TaPost.mk HV.out.1 HV.out.2 HZ.out.2 HZ.out.1)
  | true =>
    rw [show errI true = 0 from rfl]
    have HRX := Lib.hid hr
    clear hr
    have hnd := nodeAt_any w.heap.size X p w.heap.size 0 _ _ _ _ _ _ hb.size bbx.lt ⟨bbx.cell 0, bbx.cell 1, bbx.cell 2, bbx.cell 3⟩ (HX0.out.below hb) hp
    have HND := Lib.hid hnd
    clear hnd
    go_wp2_with fail
    have hlow := hb.size
    have hlx := bbx.lt
    have hlz := bbz.lt
    refine (HND.out).mono ?_
    rintro e W2 ⟨B, hmm⟩
    replace bbx := Box.keep B bbx
    replace bbz := Box.keep B bbz
    replace hp := hp.up B B.size
    replace hb := hb.trans (B.mono hb.size)
    clear B
    clear HND
    cases hn : nodT p X with
    | none =>
      have HV : Hid (atV p X = zeroTr ∧ atE p X = 10) := atV_none HRX.out hn
      rw [hn] at hmm
      dsimp only at hmm
      subst hmm
      clear hn
      have u0 := bbz.cell 0
      have u1 := bbz.cell 1
      have u2 := bbz.cell 2
      have u3 := bbz.cell 3
      have g0 := bbz.frozen 0
      have g1 := bbz.frozen 1
      have g2 := bbz.frozen 2
      have g3 := bbz.frozen 3
      have lz := bbz.lt
      simp only [List.getElem?_toArray, List.getElem?_cons_succ, List.getElem?_cons_zero] at u0 u1 u2 u3
      have z := bbz.four (.int .i64 0) (.int .i64 0) (.string ⟨#[]⟩) (.slice none 0 0)
      have zB := below_four hb (B := w.heap.size + 1) (by omega) (.int .i64 0) (.int .i64 0) (.string ⟨#[]⟩) (.slice none 0 0)
      have zT : IsT ((((W2.setCell ⟨w.heap.size + 1, 0, none⟩ (.int .i64 0)).setCell ⟨w.heap.size + 1, 1, none⟩ (.int .i64 0)).setCell ⟨w.heap.size + 1, 2, none⟩ (.string ⟨#[]⟩)).setCell ⟨w.heap.size + 1, 3, none⟩ (.slice none 0 0)).heap.size ((((W2.setCell ⟨w.heap.size + 1, 0, none⟩ (.int .i64 0)).setCell ⟨w.heap.size + 1, 1, none⟩ (.int .i64 0)).setCell ⟨w.heap.size + 1, 2, none⟩ (.string ⟨#[]⟩)).setCell ⟨w.heap.size + 1, 3, none⟩ (.slice none 0 0)) zeroTr (.agg #[.int .i64 0, .int .i64 0, .string ⟨#[]⟩, .slice none 0 0]) := zeroTa _ _
      have HZ := Lib.hid (And.intro zB zT)
      have y0 := z.cell 0
      have y1 := z.cell 1
      have y2 := z.cell 2
      have y3 := z.cell 3
      clear z zB zT
      go_wp2_with fail
      clear u0 u1 u2 u3 g0 g1 g2 g3
      generalize ((((W2.setCell ⟨w.heap.size + 1, 0, none⟩ (.int .i64 0)).setCell ⟨w.heap.size + 1, 1, none⟩ (.int .i64 0)).setCell ⟨w.heap.size + 1, 2, none⟩ (.string ⟨#[]⟩)).setCell ⟨w.heap.size + 1, 3, none⟩ (.slice none 0 0)) = FW at *
      simp at y0 y1 y2 y3
      exact bodyPost_ret (v := .tuple #[.agg #[.int .i64 0, .int .i64 0, .string ⟨#[]⟩, .slice none 0 0], .int .i64 10]) (by simp [results, Tryd.results29, go_sem, y0, y1, y2, y3]) rfl (TaPost.mk HV.out.1 HV.out.2 HZ.out.2 HZ.out.1)
    | some Y =>
      have HV : Hid (atV p X = Y ∧ atE p X = 0) := atV_some HRX.out hn
      have hys := nodT_size p hn
      rw [hn] at hmm
      dsimp only at hmm
      obtain ⟨B1, o1, jk, jn, js, ja, jm, jc, rfl, hB1, ⟨q0, q1, q2, q3⟩, hY, -⟩ := hmm
      clear hn
      have hcp := copyTerm_any Y _ _ (hY.mono hb.size) (by omega)
      have HCP := Lib.hid hcp
      clear hcp hY
      have hlz2 := bbz.lt
      go_wp2_with fail
      clear q0 q1 q2 q3
      refine (HCP.out).mono ?_
      rintro e W3 ⟨yv, rfl, hP, B⟩
      replace bbx := Box.keep B bbx
      replace bbz := Box.keep B bbz
      replace hp := hp.up B B.size
      replace hb := hb.trans (B.mono hb.size)
      clear B
      clear HCP
      obtain ⟨yk, yn, ys, ya, ym, yc, rfl⟩ := hP.form
      have u0 := bbz.cell 0
      have u1 := bbz.cell 1
      have u2 := bbz.cell 2
      have u3 := bbz.cell 3
      have g0 := bbz.frozen 0
      have g1 := bbz.frozen 1
      have g2 := bbz.frozen 2
      have g3 := bbz.frozen 3
      have lz := bbz.lt
      simp only [List.getElem?_toArray, List.getElem?_cons_succ, List.getElem?_cons_zero] at u0 u1 u2 u3
      have z := bbz.four (.int .i64 yk) (.int .i64 yn) (.string ys) (.slice ya ym yc)
      have zB := below_four hb (B := w.heap.size + 1) (by omega) (.int .i64 yk) (.int .i64 yn) (.string ys) (.slice ya ym yc)
      have zT : IsT ((((W3.setCell ⟨w.heap.size + 1, 0, none⟩ (.int .i64 yk)).setCell ⟨w.heap.size + 1, 1, none⟩ (.int .i64 yn)).setCell ⟨w.heap.size + 1, 2, none⟩ (.string ys)).setCell ⟨w.heap.size + 1, 3, none⟩ (.slice ya ym yc)).heap.size ((((W3.setCell ⟨w.heap.size + 1, 0, none⟩ (.int .i64 yk)).setCell ⟨w.heap.size + 1, 1, none⟩ (.int .i64 yn)).setCell ⟨w.heap.size + 1, 2, none⟩ (.string ys)).setCell ⟨w.heap.size + 1, 3, none⟩ (.slice ya ym yc)) Y (.agg #[.int .i64 yk, .int .i64 yn, .string ys, .slice ya ym yc]) := New.toT (hP.four (lo' := w.heap.size) (by omega) (by omega) (.int .i64 yk) (.int .i64 yn) (.string ys) (.slice ya ym yc))
      have HZ := Lib.hid (And.intro zB zT)
      have y0 := z.cell 0
      have y1 := z.cell 1
      have y2 := z.cell 2
      have y3 := z.cell 3
      clear z zB zT
      clear hP
      go_wp2_with fail
      clear u0 u1 u2 u3 g0 g1 g2 g3
      generalize ((((W3.setCell ⟨w.heap.size + 1, 0, none⟩ (.int .i64 yk)).setCell ⟨w.heap.size + 1, 1, none⟩ (.int .i64 yn)).setCell ⟨w.heap.size + 1, 2, none⟩ (.string ys)).setCell ⟨w.heap.size + 1, 3, none⟩ (.slice ya ym yc)) = FW at *
      simp at y0 y1 y2 y3
      exact bodyPost_ret (v := .tuple #[.agg #[.int .i64 yk, .int .i64 yn, .string ys, .slice ya ym yc], .int .i64 0]) (by simp [results, Tryd.results29, go_sem, y0, y1, y2, y3]) rfl (TaPost.mk HV.out.1 HV.out.2 HZ.out.2 HZ.out.1)
end Go.Proofs.YtdigiaigbcfccaaDoor
