/- The second reading of what a substitution makes of a tree. -/
import Derived.Sort.CutIn
import Derived.BigFrameIn
import Derived.Test.YtckoecmdaefoiaaDoorRowG
import Derived.Test.YtckoecmdaefoiaaDoorSbs
import Derived.Test.YtckoecmdaefoiaaDoorCount
import Derived.Test.YtckoecmdaefoiaaDoorMono
namespace Go.Proofs.YtckoecmdaefoiaaDoor
open Go.RowKit Go

attribute [local go_sem] monoUpon uponP Yld.says

mutual
/-- What the second reading says, and what is left. -/
def apR (l : List Tr) : Tr → Int → Int → Bool × Int
  | .node k x _ ts, m, d =>
    if k = 1 ∧ x < l.length ∧ (l.getD x.toNat default).free = false then
      (decide (0 ≤ m - (l.getD x.toNat default).size) && decide (((l.getD x.toNat default).deep : Int) ≤ d), m - (l.getD x.toNat default).size)
    else if m - 1 < 0 ∨ d < 1 then (false, m - 1) else apRL l ts (m - 1) (d - 1)
def apRL (l : List Tr) : List Tr → Int → Int → Bool × Int
  | [], m, _ => (true, m)
  | t :: ts, m, d => if (apR l t m d).1 then apRL l ts (apR l t m d).2 d else (false, (apR l t m d).2)
end
theorem apRL_take {l : List Tr} : ∀ (ts : List Tr) (m d y : Int) (j : Nat) (h : j < ts.length), apRL l (ts.take j) m d = (true, y) → apRL l (ts.take (j + 1)) m d = (if (apR l ts[j] y d).1 then (true, (apR l ts[j] y d).2) else (false, (apR l ts[j] y d).2))
  | [], _, _, _, _, h, _ => by simp at h
  | t :: ts, m, d, y, 0, _, he => by
    simp only [List.take_zero, apRL, Prod.mk.injEq, true_and] at he
    subst he
    simp [apRL]
  | t :: ts, m, d, y, j + 1, h, he => by
    simp only [List.take_succ_cons, apRL] at he ⊢
    by_cases hc : (apR l t m d).1 = true
    · rw [if_pos hc] at he ⊢
      exact apRL_take ts _ d y j (by simpa using h) he
    · rw [if_neg hc] at he
      cases he
theorem apRL_false {l : List Tr} : ∀ (ts : List Tr) (m d y : Int) (j : Nat), apRL l (ts.take j) m d = (false, y) → apRL l ts m d = (false, y)
  | [], m, d, y, j, h => by simp [apRL] at h
  | t :: ts, m, d, y, 0, h => by simp [apRL] at h
  | t :: ts, m, d, y, j + 1, h => by
    simp only [List.take_succ_cons, apRL] at h ⊢
    by_cases hc : (apR l t m d).1 = true
    · rw [if_pos hc] at h ⊢
      exact apRL_false ts _ d y j h
    · rw [if_neg hc] at h ⊢
      exact h
theorem putsB_free {l : List Tr} (hl : subOkB l = true) {x : Int} (h0 : 0 ≤ x) : putsB l 1 x = true ↔ (x < l.length ∧ (l.getD x.toNat default).free = false) := by
  have hw := want_eq hl h0
  simp only [putsB, Bool.and_eq_true, decide_eq_true_eq, true_and]
  constructor
  · rintro ⟨h1, h2⟩
    refine ⟨h1, ?_⟩
    rcases subOk_mem hl (getD_mem (l := l) (n := x.toNat) (by omega)) with hf | hf
    · exact absurd (free_size hf).2 h2
    · cases hfr : (l.getD x.toNat default).free with
      | false => rfl
      | true => exact absurd (free_size hfr).2 h2
  · rintro ⟨h1, h2⟩
    refine ⟨h1, ?_⟩
    rcases subOk_mem hl (getD_mem (l := l) (n := x.toNat) (by omega)) with hf | hf
    · rw [hf] at h2; cases h2
    · exact good_kind (isB_is hf).1
mutual
/-- The second reading says whether what is made is small enough. -/
theorem apR_ok {l : List Tr} (hl : subOkB l = true) : ∀ (T : Tr) (m d : Int), T.good = true → 0 ≤ m → ((apR l T m d).1 = true ↔ (((subT l T).size : Int) ≤ m ∧ ((subT l T).deep : Int) ≤ d)) ∧ ((apR l T m d).1 = true → (apR l T m d).2 = m - (subT l T).size)
  | .node k x s ts, m, d, hg, hm => by
    rw [apR, subT]
    by_cases hp : k = 1 ∧ x < l.length ∧ (l.getD x.toNat default).free = false
    · obtain ⟨rfl, h1, h2⟩ := hp
      obtain ⟨_, _, hx0, _⟩ := good_var hg
      rw [if_pos ⟨rfl, h1, h2⟩, if_pos ((putsB_free hl hx0).2 ⟨h1, h2⟩)]
      simp only [Bool.and_eq_true, decide_eq_true_eq]
      exact ⟨by omega, fun _ => trivial⟩
    · have hpb : putsB l k x = false := by
        rw [Bool.eq_false_iff]
        intro h
        have hk : k = 1 := by simp [putsB] at h; exact h.1.1
        subst hk
        obtain ⟨_, _, hx0, _⟩ := good_var hg
        have := (putsB_free hl hx0).1 h
        exact hp ⟨rfl, this⟩
      rw [if_neg hp, if_neg (show ¬ putsB l k x = true by simp [hpb])]
      simp only [Tr.good, Bool.and_eq_true] at hg
      simp only [Tr.size, Tr.deep]
      by_cases hc : m - 1 < 0 ∨ d < 1
      · rw [if_pos hc]
        refine ⟨⟨fun h => (by cases h), fun ⟨h1, h2⟩ => by omega⟩, fun h => (by cases h)⟩
      · rw [if_neg hc]
        have := apRL_ok hl ts (m - 1) (d - 1) hg.2 (by omega) (by omega)
        refine ⟨this.1.trans (by omega), fun h => by rw [this.2 h]; omega⟩
theorem apRL_ok {l : List Tr} (hl : subOkB l = true) : ∀ (ts : List Tr) (m d : Int), goodL ts = true → 0 ≤ m → 0 ≤ d → ((apRL l ts m d).1 = true ↔ ((sizeL (subL l ts) : Int) ≤ m ∧ (deepL (subL l ts) : Int) ≤ d)) ∧ ((apRL l ts m d).1 = true → (apRL l ts m d).2 = m - sizeL (subL l ts))
  | [], m, d, _, hm, hd => by simp [apRL, subL, sizeL, deepL, hm, hd]
  | t :: ts, m, d, hg, hm, hd => by
    simp only [goodL, Bool.and_eq_true] at hg
    rw [apRL, subL]
    simp only [sizeL, deepL]
    have h1 := apR_ok hl t m d hg.1 hm
    by_cases hc : (apR l t m d).1 = true
    · rw [if_pos hc]
      have h2 := h1.1.1 hc
      have h3 := h1.2 hc
      have h4 := apRL_ok hl ts (apR l t m d).2 d hg.2 (by omega) hd
      rw [h3] at h4 ⊢
      refine ⟨h4.1.trans (by omega), fun h => by rw [h4.2 h]; omega⟩
    · rw [if_neg hc]
      refine ⟨⟨fun h => (by cases h), fun h => ?_⟩, fun h => (by cases h)⟩
      exact absurd (h1.1.2 ⟨by omega, by omega⟩) hc
end
def ApPost (n₀ P : Nat) (r : Bool × Int) (X : Tr) (w : World) (e : Ending) (w' : World) : Prop := ∃ k x s a m c, e = .returned (.tuple #[.agg #[.int .i64 k, .int .i64 x, .string s, .slice a m c], .bool r.1]) ∧ Box w' P #[.int .i64 r.2] 3 ∧ w.grownBy w' (some P) ∧ (r.1 = true → IsP (OA n₀ w.heap.size w') w' X (.agg #[.int .i64 k, .int .i64 x, .string s, .slice a m c]))
structure ApB (n₀ P Bo : Nat) (l : List Tr) (w : World) (k x : Int) (s : ByteArray) (ts : List Tr) (a : Option Addr) (c j : Nat) (ov : Value) (xs : List Value) (wr : World) : Prop where
  b0 : Box wr w.heap.size #[.int .i64 k, .int .i64 x, .string s, .slice a ts.length c] 25
  b1 : Box wr (w.heap.size + 1) #[.int .i64 0, .int .i64 0, .string ⟨#[]⟩, .slice none 0 0] 25
  b2 : Box wr Bo #[.int .i64 k, .int .i64 x, .string s, ov] 25
  bo : w.heap.size + 1 < Bo
  row : RowG (some P) n₀ (Bo + 1) w ((ts.take j).map (subT l)) ov xs wr
theorem ApB.up {n₀ P Bo : Nat} {l : List Tr} {w wr W : World} {k x : Int} {s : ByteArray} {ts : List Tr} {a : Option Addr} {c j : Nat} {ov : Value} {xs : List Value} (h : ApB n₀ P Bo l w k x s ts a c j ov xs wr) (g : wr.grownBy W (some P)) : ApB n₀ P Bo l w k x s ts a c j ov xs W := by
  have hp := (h.row.hrow P rfl).2
  have hb := h.bo
  exact ⟨h.b0.grown g (by omega), h.b1.grown g (by omega), h.b2.grown g (by omega), h.bo, h.row.up g⟩
/-- A box is written in the midst of a region: before and behind. -/
def PhC (W : World) (B : Nat) (x y : Array Value) : Bool → World → Prop
  | false, w => W.grownBy w (some B) ∧ Box w B x 25
  | true, w => W.grownBy w (some B) ∧ Box w B y 25
theorem PhC.gr {W : World} {B : Nat} {x y : Array Value} {b : Bool} {w : World} (h : PhC W B x y b w) : W.grownBy w (some B) := by
  cases b
  · exact h.1
  · exact h.1
theorem PhC.start {W : World} {B : Nat} {x y : Array Value} (h : Box W B x 25) : PhC W B x y false { W with drawn := W.drawn + 1 } := ⟨⟨rfl, rfl, rfl, Nat.le_refl _, fun _ _ _ => rfl⟩, h⟩
theorem PhC.put {W : World} {B : Nat} {x0 x1 x2 x3 y0 y1 y2 y3 : Value} {w : World} (h : PhC W B #[x0, x1, x2, x3] #[y0, y1, y2, y3] false w) : PhC W B #[x0, x1, x2, x3] #[y0, y1, y2, y3] true ((((w.setCell ⟨B, 0, none⟩ y0).setCell ⟨B, 1, none⟩ y1).setCell ⟨B, 2, none⟩ y2).setCell ⟨B, 3, none⟩ y3) :=
  ⟨grown_trans h.1 (grown_trans (grown_trans (grown_trans (grown_set B 0 w y0) (grown_set B 1 _ y1)) (grown_set B 2 _ y2)) (grown_set B 3 _ y3)), h.2.four y0 y1 y2 y3⟩
theorem RowG.below {P n₀ lo : Nat} {w wr : World} {l : List Tr} {ov : Value} {xs : List Value} (h : RowG (some P) n₀ lo w l ov xs wr) : Below n₀ w wr :=
  grown_below' h.grown h.hn (fun g e => by cases e; exact (h.hrow _ rfl).1)

set_option maxRecDepth 100000 in
set_option maxHeartbeats 8000000 in
theorem refApply_any (l : List Tr) (hl : subOkB l = true) (n₀ P : Nat) (hP : n₀ ≤ P) (al : Option Addr) (cl : Nat) (T : Tr) : ∀ (v : Value) (m d : Int) (w : World), T.good = true → IsT n₀ w T v → n₀ ≤ w.heap.size → IsL n₀ w l al → Box w P #[.int .i64 m] 3 → 0 ≤ m → m ≤ 4000 → -1000 ≤ d → d ≤ 1000 → T.size ≤ 1000000 →
    Calls Tryd.prog 95 #[v, .slice al l.length cl, .pointer (some ⟨P, 0, none⟩), .int .i64 d] w (ApPost n₀ P (apR l T m d) (subT l T) w) := by
  induction T using Tr.ind with
  | h k x s ts ih =>
  intro v m d w hg hT hn hL hb hm0 hm1 hd0 hd1 hsz
  obtain ⟨a, c, rfl, h1, h2, h3, h4, h5, hts⟩ := hT.open
  have hlm : ts.length ≤ 9223372036854775807 := by unfold maxLen at h5; omega
  have hll : l.length ≤ 9223372036854775807 := by have := subOk_len hl; omega
  obtain ⟨h21, h22⟩ := h2
  have hPw := hb.lt
  simp only [Tr.size] at hsz
  have hln := length_le_sizeL ts
  have HTS := Lib.hid hts
  have HI := Lib.hid ih
  have HLL := Lib.hid hL
  have HOK := Lib.hid (And.intro h1 h3)
  have HG := Lib.hid hg
  have HTT := Lib.hid hT
  clear ih hts hT h1 h3
  by_cases hk : k = 1
  · subst hk
    obtain ⟨-, -, hx0, hx1⟩ := good_var hg
    clear hg
    by_cases hi : x < l.length
    · obtain ⟨i, rfl⟩ := Int.eq_ofNat_of_zero_le hx0
      have hi' : i < l.length := by omega
      have hgd : l.getD ((i : Int)).toNat default = l[i] := by simp [List.getD, hi']
      obtain ⟨b, off, rfl, hbb⟩ := HLL.out.addr (by omega)
      have hBn : Below n₀ w ((w.alloc (.cells #[.int .i64 1, .int .i64 (i : Int), .string s, .slice a ts.length c] 25)).alloc (.cells #[.int .i64 0, .int .i64 0, .string ⟨#[]⟩, .slice none 0 0] 25)) := below_a2 hn _ _
      obtain ⟨tk, tn, tss, tl, ta, tc, te, e0, e1, e2, e3, hte⟩ := HLL.out.node' hbb hBn i hi'
      obtain ⟨r, hr⟩ : ∃ r, (l[i]).free = r := ⟨_, rfl⟩
      have HFC := Lib.hid (free_any l[i] _ _ ((hte.below hBn).mono (by simp; omega)) r hr)
      have hbw : b < ((w.alloc (.cells #[.int .i64 1, .int .i64 (i : Int), .string s, .slice a ts.length c] 25)).alloc (.cells #[.int .i64 0, .int .i64 0, .string ⟨#[]⟩, .slice none 0 0] 25)).heap.size := by simp; omega
      have b0 : Box ((w.alloc (.cells #[.int .i64 1, .int .i64 (i : Int), .string s, .slice a ts.length c] 25)).alloc (.cells #[.int .i64 0, .int .i64 0, .string ⟨#[]⟩, .slice none 0 0] 25)) w.heap.size #[.int .i64 1, .int .i64 (i : Int), .string s, .slice a ts.length c] 25 := (Box.at rfl).alloc _
      have b1 : Box ((w.alloc (.cells #[.int .i64 1, .int .i64 (i : Int), .string s, .slice a ts.length c] 25)).alloc (.cells #[.int .i64 0, .int .i64 0, .string ⟨#[]⟩, .slice none 0 0] 25)) (w.heap.size + 1) #[.int .i64 0, .int .i64 0, .string ⟨#[]⟩, .slice none 0 0] 25 := Box.at (by simp)
      have bp := (hb.alloc (.cells #[.int .i64 1, .int .i64 (i : Int), .string s, .slice a ts.length c] 25)).alloc (.cells #[.int .i64 0, .int .i64 0, .string ⟨#[]⟩, .slice none 0 0] 25)
      have hB2 := below_a2 (Nat.le_refl w.heap.size) (.cells #[.int .i64 1, .int .i64 (i : Int), .string s, .slice a ts.length c] 25) (.cells #[.int .i64 0, .int .i64 0, .string ⟨#[]⟩, .slice none 0 0] 25)
      have q0 := b0.cell 0
      have q1 := b0.cell 1
      have q2 := b0.cell 2
      have q3 := b0.cell 3
      have l0 := b0.lt
      simp only [List.getElem?_toArray, List.getElem?_cons_succ, List.getElem?_cons_zero] at q0 q1 q2 q3
      have HB2 := Lib.hid (And.intro b0 (And.intro b1 (And.intro bp hB2)))
      have HGD := Lib.hid (And.intro hgd hr)
      clear te hte hBn b0 b1 bp hB2 hgd hr hi
      refine (callsIn_wide (n := 9)).1 ?_
      generalize hF : Fence.wide = F
      have hd : F.depth = none := by subst hF; rfl
      have hf : ∀ f, F.fn f := fun f => by subst hF; trivial
      have hro : F.round = none := by subst hF; rfl
      refine callsIn_of_wp Tryd.func95 rfl (hf _) ?_ hro
      simp only [Tryd.ntmps95, List.size_toArray, List.length_cons, List.length_nil, Nat.reduceAdd, Nat.reduceSub, Array.replicate_succ, Array.replicate_zero, List.push_toArray, List.append_toArray, List.nil_append, List.cons_append]
      gi_wp2_with fail
      refine CallsIn.mono (callsIn_of_calls hF HFC.out) ?_
      rintro e W1 ⟨rfl, hB1'⟩
      have qb := Box.keep hB1' HB2.out.1
      have rb := Box.keep hB1' HB2.out.2.1
      have pb := Box.keep hB1' HB2.out.2.2.1
      have hB1 := HB2.out.2.2.2.trans (hB1'.mono HB2.out.2.2.2.size)
      have hs1 := hB1'.size
      simp only [World.size_alloc] at hs1
      clear hB1' HFC q0 q1 q2 q3 e0 e1 e2 e3 l0
      cases r with
      | true =>
        have hnp : ¬((1 : Int) = (1 : Int) ∧ (i : Int) < l.length ∧ (l.getD ((i : Int)).toNat default).free = false) := fun h => by have h2 := h.2.2; rw [HGD.out.1, HGD.out.2] at h2; cases h2
        have hAp : Hid (apR l (.node 1 (i : Int) s ts) m d = if m - 1 < 0 ∨ d < 1 then (false, m - 1) else apRL l ts (m - 1) (d - 1)) := by rw [Hid, apR, if_neg hnp]
        have hSub : Hid (subT l (.node 1 (i : Int) s ts) = .node 1 (i : Int) s (ts.map (subT l))) := by rw [Hid, subT, if_neg (fun h => hnp ⟨rfl, (putsB_free hl hx0).1 h⟩), subL_map]
        clear hnp
        clear hbw
        have o0 := pb.cell 0
        have of := pb.frozen 0
        have lo := pb.lt
        simp only [List.getElem?_toArray, List.getElem?_cons_zero] at o0
        have v0 := qb.cell 0
        have v1 := qb.cell 1
        have v2 := qb.cell 2
        have v3 := qb.cell 3
        have lv := qb.lt
        simp only [List.getElem?_toArray, List.getElem?_cons_succ, List.getElem?_cons_zero] at v0 v1 v2 v3
        have hPne : P ≠ w.heap.size := by omega
        have b0 := qb.other (B' := P) (by omega) 0 (.int .i64 (m - 1))
        have b1 := rb.other (B' := P) (by omega) 0 (.int .i64 (m - 1))
        have bp : Box (W1.setCell ⟨P, 0, none⟩ (.int .i64 (m - 1))) P #[.int .i64 (m - 1)] 3 := by simpa using pb.set 0 (.int .i64 (m - 1))
        have hgz : w.grownBy (W1.setCell ⟨P, 0, none⟩ (.int .i64 (m - 1))) (some P) := grown_trans (grown_b _ hB1) (grown_set P 0 W1 _)
        have hsz3 : w.heap.size + 2 ≤ (W1.setCell ⟨P, 0, none⟩ (.int .i64 (m - 1))).heap.size := by simp; omega
        have u0 := b1.cell 0
        have u1 := b1.cell 1
        have u2 := b1.cell 2
        have u3 := b1.cell 3
        have y0 := bp.cell 0
        have yf := bp.frozen 0
        have g0 := b1.frozen 0
        have g1 := b1.frozen 1
        have g2 := b1.frozen 2
        have g3 := b1.frozen 3
        have l0 := b0.lt
        have l1 := b1.lt
        have lp := bp.lt
        simp only [List.getElem?_toArray, List.getElem?_cons_succ, List.getElem?_cons_zero] at u0 u1 u2 u3 y0
        have HB := Lib.hid (And.intro b0 (And.intro b1 (And.intro bp hgz)))
        clear b0 b1 bp hgz
        by_cases hc : m - 1 < 0
        · have hR : Hid (apR l (.node 1 (i : Int) s ts) m d = (false, m - 1)) := by rw [Hid, hAp.out]; exact if_pos (by omega)
          gi_wp2_with fail
          have z := HB.out.2.1.four (.int .i64 0) (.int .i64 0) (.string ⟨#[]⟩) (.slice none 0 0)
          have zp := (((HB.out.2.2.1.other (B' := w.heap.size + 1) (by omega) 0 (.int .i64 0)).other (B' := w.heap.size + 1) (by omega) 1 (.int .i64 0)).other (B' := w.heap.size + 1) (by omega) 2 (.string ⟨#[]⟩)).other (B' := w.heap.size + 1) (by omega) 3 (.slice none 0 0)
          have zg : w.grownBy (((((W1.setCell ⟨P, 0, none⟩ (.int .i64 (m - 1))).setCell ⟨w.heap.size + 1, 0, none⟩ (.int .i64 0)).setCell ⟨w.heap.size + 1, 1, none⟩ (.int .i64 0)).setCell ⟨w.heap.size + 1, 2, none⟩ (.string ⟨#[]⟩)).setCell ⟨w.heap.size + 1, 3, none⟩ (.slice none 0 0)) (some P) := ⟨HB.out.2.2.2.os, HB.out.2.2.2.tape, HB.out.2.2.2.output, by have := HB.out.2.2.2.size; simp; omega, fun i hi hr => (heap_four (by omega) _ _ _ _).trans (HB.out.2.2.2.block i hi hr)⟩
          have w0 := z.cell 0
          have w1 := z.cell 1
          have w2 := z.cell 2
          have w3 := z.cell 3
          clear v0 v1 v2 v3 u0 u1 u2 u3 y0 yf g0 g1 g2 g3 o0 of z
          generalize (((((W1.setCell ⟨P, 0, none⟩ (.int .i64 (m - 1))).setCell ⟨w.heap.size + 1, 0, none⟩ (.int .i64 0)).setCell ⟨w.heap.size + 1, 1, none⟩ (.int .i64 0)).setCell ⟨w.heap.size + 1, 2, none⟩ (.string ⟨#[]⟩)).setCell ⟨w.heap.size + 1, 3, none⟩ (.slice none 0 0)) = FW at *
          simp at w0 w1 w2 w3
          refine bodyPost_ret (v := .tuple #[.agg #[.int .i64 0, .int .i64 0, .string ⟨#[]⟩, .slice none 0 0], .bool false]) (by simp [results, Tryd.results95, go_sem, w0, w1, w2, w3]) rfl ⟨_, _, _, _, _, _, by rw [hR.out], by rw [hR.out]; exact zp, zg, fun h => by rw [hR.out] at h; cases h⟩
        · have hc1 : 1 ≤ m := by omega
          clear hc
          by_cases hcd : d < 1
          · have hR : Hid (apR l (.node 1 (i : Int) s ts) m d = (false, m - 1)) := by rw [Hid, hAp.out]; exact if_pos (by omega)
            gi_wp2_with fail
            have z := HB.out.2.1.four (.int .i64 0) (.int .i64 0) (.string ⟨#[]⟩) (.slice none 0 0)
            have zp := (((HB.out.2.2.1.other (B' := w.heap.size + 1) (by omega) 0 (.int .i64 0)).other (B' := w.heap.size + 1) (by omega) 1 (.int .i64 0)).other (B' := w.heap.size + 1) (by omega) 2 (.string ⟨#[]⟩)).other (B' := w.heap.size + 1) (by omega) 3 (.slice none 0 0)
            have zg : w.grownBy (((((W1.setCell ⟨P, 0, none⟩ (.int .i64 (m - 1))).setCell ⟨w.heap.size + 1, 0, none⟩ (.int .i64 0)).setCell ⟨w.heap.size + 1, 1, none⟩ (.int .i64 0)).setCell ⟨w.heap.size + 1, 2, none⟩ (.string ⟨#[]⟩)).setCell ⟨w.heap.size + 1, 3, none⟩ (.slice none 0 0)) (some P) := ⟨HB.out.2.2.2.os, HB.out.2.2.2.tape, HB.out.2.2.2.output, by have := HB.out.2.2.2.size; simp; omega, fun i hi hr => (heap_four (by omega) _ _ _ _).trans (HB.out.2.2.2.block i hi hr)⟩
            have w0 := z.cell 0
            have w1 := z.cell 1
            have w2 := z.cell 2
            have w3 := z.cell 3
            clear v0 v1 v2 v3 u0 u1 u2 u3 y0 yf g0 g1 g2 g3 o0 of z
            generalize (((((W1.setCell ⟨P, 0, none⟩ (.int .i64 (m - 1))).setCell ⟨w.heap.size + 1, 0, none⟩ (.int .i64 0)).setCell ⟨w.heap.size + 1, 1, none⟩ (.int .i64 0)).setCell ⟨w.heap.size + 1, 2, none⟩ (.string ⟨#[]⟩)).setCell ⟨w.heap.size + 1, 3, none⟩ (.slice none 0 0)) = FW at *
            simp at w0 w1 w2 w3
            refine bodyPost_ret (v := .tuple #[.agg #[.int .i64 0, .int .i64 0, .string ⟨#[]⟩, .slice none 0 0], .bool false]) (by simp [results, Tryd.results95, go_sem, w0, w1, w2, w3]) rfl ⟨_, _, _, _, _, _, by rw [hR.out], by rw [hR.out]; exact zp, zg, fun h => by rw [hR.out] at h; cases h⟩
          · have hd3 : 1 ≤ d := by omega
            clear hcd
            have hR : Hid (apR l (.node 1 (i : Int) s ts) m d = apRL l ts (m - 1) (d - 1)) := by rw [Hid, hAp.out]; exact if_neg (by omega)
            clear v0 v1 v2 v3
            gi_upto_region 6 with (fail)
            clear u0 u1 u2 u3 g0 g1 g2 g3 o0 of l0
            have hszz : (W1.setCell ⟨P, 0, none⟩ (.int .i64 (m - 1))).heap.size = W1.heap.size := by simp
            generalize (W1.setCell ⟨P, 0, none⟩ (.int .i64 (m - 1))) = WZ at *
            rw [← hszz] at hs1
            clear hszz
            have q0 := HB.out.1.cell 0
            have q1 := HB.out.1.cell 1
            have q2 := HB.out.1.cell 2
            have q3 := HB.out.1.cell 3
            simp only [List.getElem?_toArray, List.getElem?_cons_succ, List.getElem?_cons_zero] at q0 q1 q2 q3
            have l0 := HB.out.1.lt
            have hc2 : ¬ (m - 1 < 0) := by omega
            have hd4 : ¬ (d < 1) := by omega
            clear hc1 hd3
            gi_upto_region 7 with (fail)
            have hc1 : 1 ≤ m := by omega
            have hd3 : 1 ≤ d := by omega
            clear hc2 hd4
            gi_wp2_with fail
            have hS0 : ApB n₀ P (WZ.heap.size) l w 1 (i : Int) s ts a c 0 (.slice none 0 0) [] (WZ.alloc (.cells #[.int .i64 1, .int .i64 (i : Int), .string s, .slice none 0 0] 25)) := ⟨HB.out.1.alloc _, HB.out.2.1.alloc _, Box.at (by simp), by omega, RowG.nil (grown_trans HB.out.2.2.2 (World.grownBy_alloc _ _ _)) hn (fun p e => by cases e; exact ⟨hP, hPw⟩) (by omega) (by simp)⟩
            have hbp0 := HB.out.2.2.1.alloc (.cells #[.int .i64 1, .int .i64 (i : Int), .string s, .slice none 0 0] 25)
            clear q0 q1 q2 q3 l0 y0 yf l1 lp
            generalize (WZ.alloc (.cells #[.int .i64 1, .int .i64 (i : Int), .string s, .slice none 0 0] 25)) = WS at *
            obtain ⟨i0, hi, hz0, hz1, hz2⟩ := info_parts infoTerm
            gi_loopw [13] (fun iv wr => ∃ (j : Nat) (y : Int) (ov : Value) (xs : List Value), j ≤ ts.length ∧ iv = .int .i64 j ∧ ApB n₀ P (WZ.heap.size) l w 1 (i : Int) s ts a c j ov xs wr ∧ Box wr P #[.int .i64 y] 3 ∧ apRL l (ts.take j) (m - 1) (d - 1) = (true, y) ∧ 0 ≤ y ∧ y ≤ 4000) (fun iv _ => ts.length - (intOf iv).toNat)
            case atStart => exact ⟨0, m - 1, _, _, Nat.zero_le _, rfl, hS0, hbp0, by simp [apRL], by omega, by omega⟩
            case round =>
              clear hS0 hbp0
              obtain ⟨j, y, ov, xs, hj, rfl, hS, hbp, hok, hy0, hy1⟩ := hrel
              have HA := Lib.hid (And.intro hS (And.intro hbp hok))
              have hBr := hS.row.below
              have c3 := hS.b0.cell 3
              have lb0 := hS.b0.lt
              have hwn : n₀ ≤ wr.heap.size := by have := hS.row.grown.size; omega
              simp only [List.getElem?_toArray, List.getElem?_cons_succ, List.getElem?_cons_zero] at c3
              clear hS hbp hok
              by_cases hlt : j < ts.length
              · obtain ⟨b, off, rfl, hbb⟩ := HTS.out.addr (by omega)
                obtain ⟨tk, tn, tss, tl, ta, tc, te, d0, d1, d2, d3, ht⟩ := HTS.out.node' hbb hBr j hlt
                have hbw : b < wr.heap.size := by omega
                have hgt : (ts[j]).good = true := by
                  have h := HG.out
                  simp only [Tr.good, Bool.and_eq_true] at h
                  exact goodL_mem h.2 (List.getElem_mem hlt)
                have hcall := HI.out ts[j] (List.getElem_mem hlt) _ y (d - 1) wr hgt (ht.below hBr) hwn (HLL.out.below hBr) HA.out.2.1 hy0 hy1 (by omega) (by omega) (by have := size_mem (List.getElem_mem hlt); omega)
                have hap := apR_ok hl ts[j] y (d - 1) hgt hy0
                obtain ⟨rz, hrz⟩ : ∃ rz, apR l ts[j] y (d - 1) = rz := ⟨_, rfl⟩
                rw [hrz] at hcall hap
                obtain ⟨r, z⟩ := rz
                have HC := Lib.hid hcall
                have HRZ := Lib.hid (And.intro hrz hap)
                clear te ht hcall hBr hrz hap hgt
                gi_wp2_with fail
                refine CallsIn.mono (callsIn_of_calls hF HC.out) ?_
                rintro e W5 ⟨yk, yx, ys, ya, ym, yc, rfl, hbp5, hgr, hP5⟩
                dsimp only at hbp5 hP5 ⊢
                have hA5 := HA.out.1.up hgr
                have hsz5 := hgr.size
                clear HC d0 d1 d2 d3 c3
                have hA6 := hA5.up (World.grownBy_alloc W5 (.cells #[.int .i64 yk, .int .i64 yx, .string ys, .slice ya ym yc] 25) (some P))
                have hbp6 := hbp5.alloc (.cells #[.int .i64 yk, .int .i64 yx, .string ys, .slice ya ym yc] 25)
                have y0 : Box (W5.alloc (.cells #[.int .i64 yk, .int .i64 yx, .string ys, .slice ya ym yc] 25)) W5.heap.size #[.int .i64 yk, .int .i64 yx, .string ys, .slice ya ym yc] 25 := Box.at rfl
                cases r with
                | false =>
                  have hF2 : Hid (apR l (.node 1 (i : Int) s ts) m d = (false, z)) := hR.out.trans (apRL_false ts _ _ z (j + 1) (by rw [apRL_take ts _ _ y j hlt HA.out.2.2, HRZ.out.1]; rfl))
                  clear hP5 y0 hA5
                  have u0 := hA6.b1.cell 0
                  have u1 := hA6.b1.cell 1
                  have u2 := hA6.b1.cell 2
                  have u3 := hA6.b1.cell 3
                  have g0 := hA6.b1.frozen 0
                  have g1 := hA6.b1.frozen 1
                  have g2 := hA6.b1.frozen 2
                  have g3 := hA6.b1.frozen 3
                  have l1 := hA6.b1.lt
                  simp only [List.getElem?_toArray, List.getElem?_cons_succ, List.getElem?_cons_zero] at u0 u1 u2 u3
                  have HA6 := Lib.hid (And.intro hA6 hbp6)
                  clear hA6 hbp6 hbp5
                  gi_wp2_with fail
                  have zz := HA6.out.1.b1.four (.int .i64 0) (.int .i64 0) (.string ⟨#[]⟩) (.slice none 0 0)
                  have zp := (((HA6.out.2.other (B' := w.heap.size + 1) (by omega) 0 (.int .i64 0)).other (B' := w.heap.size + 1) (by omega) 1 (.int .i64 0)).other (B' := w.heap.size + 1) (by omega) 2 (.string ⟨#[]⟩)).other (B' := w.heap.size + 1) (by omega) 3 (.slice none 0 0)
                  have zg : w.grownBy (((((W5.alloc (.cells #[.int .i64 yk, .int .i64 yx, .string ys, .slice ya ym yc] 25)).setCell ⟨w.heap.size + 1, 0, none⟩ (.int .i64 0)).setCell ⟨w.heap.size + 1, 1, none⟩ (.int .i64 0)).setCell ⟨w.heap.size + 1, 2, none⟩ (.string ⟨#[]⟩)).setCell ⟨w.heap.size + 1, 3, none⟩ (.slice none 0 0)) (some P) := ⟨HA6.out.1.row.grown.os, HA6.out.1.row.grown.tape, HA6.out.1.row.grown.output, by have := HA6.out.1.row.grown.size; simp at this ⊢; omega, fun i hi hr => (heap_four (by omega) _ _ _ _).trans (HA6.out.1.row.grown.block i hi hr)⟩
                  have w0 := zz.cell 0
                  have w1 := zz.cell 1
                  have w2 := zz.cell 2
                  have w3 := zz.cell 3
                  clear zz u0 u1 u2 u3 g0 g1 g2 g3
                  generalize (((((W5.alloc (.cells #[.int .i64 yk, .int .i64 yx, .string ys, .slice ya ym yc] 25)).setCell ⟨w.heap.size + 1, 0, none⟩ (.int .i64 0)).setCell ⟨w.heap.size + 1, 1, none⟩ (.int .i64 0)).setCell ⟨w.heap.size + 1, 2, none⟩ (.string ⟨#[]⟩)).setCell ⟨w.heap.size + 1, 3, none⟩ (.slice none 0 0)) = FW at *
                  simp at w0 w1 w2 w3
                  refine bodyPost_ret (v := .tuple #[.agg #[.int .i64 0, .int .i64 0, .string ⟨#[]⟩, .slice none 0 0], .bool false]) (by simp [results, Tryd.results95, go_sem, w0, w1, w2, w3]) rfl ⟨_, _, _, _, _, _, by rw [hF2.out], by rw [hF2.out]; exact zp, zg, fun h => by rw [hF2.out] at h; cases h⟩
                | true =>
                  have hz := HRZ.out.2.1.1 rfl
                  have hz2' := HRZ.out.2.2 rfl
                  have hzr : 0 ≤ z ∧ z ≤ 4000 := by omega
                  have hPo : IsP (OB n₀ (WZ.heap.size + 1) ov (W5.alloc (.cells #[.int .i64 yk, .int .i64 yx, .string ys, .slice ya ym yc] 25))) (W5.alloc (.cells #[.int .i64 yk, .int .i64 yx, .string ys, .slice ya ym yc] 25)) (subT l ts[j]) (.agg #[.int .i64 yk, .int .i64 yx, .string ys, .slice ya ym yc]) := OB.from HA.out.1.row (Nat.le_refl _) (IsP.map (fun b hb => ⟨⟨hb.1, by have := hb.2; simp; omega⟩, Below.heap_alloc W5 _ b hb.2⟩) _ _ (hP5 rfl))
                  have hok' : apRL l (ts.take (j + 1)) (m - 1) (d - 1) = (true, z) := by rw [apRL_take ts _ _ y j hlt HA.out.2.2, HRZ.out.1]; rfl
                  have p0 := y0.cell 0
                  have p1 := y0.cell 1
                  have p2 := y0.cell 2
                  have p3 := y0.cell 3
                  have c3 := hA6.b2.cell 3
                  have l2 := hA6.b2.lt
                  simp only [List.getElem?_toArray, List.getElem?_cons_succ, List.getElem?_cons_zero] at p0 p1 p2 p3 c3
                  have hlen : ((ts.take j).map (subT l)).length = j := by simp; omega
                  have hown := hA6.row.own
                  rw [hlen] at hown
                  have hlo := hA6.row.hlo
                  have HX := Lib.hid (And.intro hA6 (And.intro hPo (And.intro hok' (And.intro hlen hbp6))))
                  clear hA5 hA6 hPo hok' hlen hP5 y0 hbp5 hbp6 hz hz2'
                  gi_wp2_with (gi_at_builtin; refine wpListIn_append_where _ rfl _ _ 22 rfl (WZ.heap.size + 1) 25 i0 _ 4 56 Tryd.underlying22 hi hz0 hz1 hz2 rfl (by decide) _ _ _ rfl (World.ownsRow.alloc hown _) ⟨W5.heap.size + 1, 0, none⟩ 1 1 [.int .i64 yk, .int .i64 yx, .string ys, .slice ya ym yc] rfl rfl (cells_of_box (Box.at (by simp))) (one_cells _ _ _ _ _ _) (by unfold maxLen; omega) (by omega) (by simp; simp at hlo; omega) ?_)
                  intro v2 w3 hown3 hgrow hwh
                  obtain ⟨hA6, hPo, hok', hlen, hbp6⟩ := HX.out
                  have hRn := hA6.row.push hPo (by rw [hlen]; exact hown3) hgrow (fun b h => (hwh b h).imp id (fun h => by first | omega | (simp; omega) | (simp at h ⊢; omega)))
                  rw [← List.map_singleton, ← List.map_append, ← List.take_succ_eq_append_getElem hlt] at hRn
                  obtain ⟨g2', cap2, hv2⟩ := ownsRow_succ hown3
                  have hbo := hA6.bo
                  have hne : ∀ B, B < WZ.heap.size + 1 → some B ≠ ov.ownBlock := fun B hB e => by have := (hA6.row.block e.symm).1; omega
                  have n0 : Box w3 w.heap.size _ 25 := (hgrow.block _ (hA6.b0.alloc _).lt (hne _ (by omega))).trans (hA6.b0.alloc _)
                  have n1 : Box w3 (w.heap.size + 1) _ 25 := (hgrow.block _ (hA6.b1.alloc _).lt (hne _ (by omega))).trans (hA6.b1.alloc _)
                  have n2 : Box w3 (WZ.heap.size) #[.int .i64 1, .int .i64 (i : Int), .string s, ov] 25 := (hgrow.block _ (hA6.b2.alloc _).lt (hne _ (by omega))).trans (hA6.b2.alloc _)
                  have np : Box w3 P #[.int .i64 z] 3 := (hgrow.block _ (hbp6.alloc _).lt (hne _ (by omega))).trans (hbp6.alloc _)
                  have hAn : ApB n₀ P (WZ.heap.size) l w 1 (i : Int) s ts (some ⟨b, off, none⟩) c (j + 1) v2 _ (w3.setCell ⟨WZ.heap.size, 3, none⟩ v2) := ⟨n0.other (by omega) 3 _, n1.other (by omega) 3 _, by simpa using n2.set 3 v2, hbo, hRn.set (by omega) (by omega) 3 v2⟩
                  have HN := Lib.hid (And.intro hAn (And.intro (np.other (B' := WZ.heap.size) (by omega) 3 v2) hok'))
                  have f3 := n2.frozen 3
                  have e3 := n2.cell 3
                  have ln2 := n2.lt
                  simp only [List.getElem?_toArray, List.getElem?_cons_succ, List.getElem?_cons_zero] at e3
                  clear hAn hRn hown3 hgrow hwh hown hA6 hPo hok' hlen hne n0 n1 n2 np hbp6 p0 p1 p2 p3 c3
                  subst hv2
                  gi_wp2_with fail
                  go_roundw
                  case rel => exact ⟨j + 1, z, _, _, hlt, by go_num, HN.out.1, HN.out.2.1, HN.out.2.2, hzr.1, hzr.2⟩
                  case measure => simp [intOf]; omega
              · have et : ts.take j = ts := List.take_of_length_le (by omega)
                have hA := HA.out.1
                have hrow := hA.row
                have hok := HA.out.2.2
                rw [et] at hrow hok
                obtain ⟨oa, oc, hov, ho1, ho2, ho3⟩ := hrow.done
                rw [List.length_map] at hov ho1
                subst hov
                have q0 := hA.b2.cell 0
                have q1 := hA.b2.cell 1
                have q2 := hA.b2.cell 2
                have q3 := hA.b2.cell 3
                have u0 := hA.b1.cell 0
                have u1 := hA.b1.cell 1
                have u2 := hA.b1.cell 2
                have u3 := hA.b1.cell 3
                have g0 := hA.b1.frozen 0
                have g1 := hA.b1.frozen 1
                have g2 := hA.b1.frozen 2
                have g3 := hA.b1.frozen 3
                have l0 := hA.b2.lt
                have l1 := hA.b1.lt
                simp only [List.getElem?_toArray, List.getElem?_cons_succ, List.getElem?_cons_zero] at q0 q1 q2 q3 u0 u1 u2 u3
                have hF2 : Hid (apR l (.node 1 (i : Int) s ts) m d = (true, y)) := hR.out.trans hok
                have HX := Lib.hid (And.intro ho1 (And.intro ho2 ho3))
                clear hA hrow hok ho1 ho2 ho3 et hBr
                gi_wp2_with fail
                have hbo := HA.out.1.bo
                have zz := HA.out.1.b1.four (.int .i64 1) (.int .i64 (i : Int)) (.string s) (.slice oa ts.length oc)
                have zp := (((HA.out.2.1.other (B' := w.heap.size + 1) (by omega) 0 (.int .i64 1)).other (B' := w.heap.size + 1) (by omega) 1 (.int .i64 (i : Int))).other (B' := w.heap.size + 1) (by omega) 2 (.string s)).other (B' := w.heap.size + 1) (by omega) 3 (.slice oa ts.length oc)
                have zg : w.grownBy ((((wr.setCell ⟨w.heap.size + 1, 0, none⟩ (.int .i64 1)).setCell ⟨w.heap.size + 1, 1, none⟩ (.int .i64 (i : Int))).setCell ⟨w.heap.size + 1, 2, none⟩ (.string s)).setCell ⟨w.heap.size + 1, 3, none⟩ (.slice oa ts.length oc)) (some P) := ⟨HA.out.1.row.grown.os, HA.out.1.row.grown.tape, HA.out.1.row.grown.output, by have := HA.out.1.row.grown.size; simp; omega, fun i hi hr => (heap_four (by omega) _ _ _ _).trans (HA.out.1.row.grown.block i hi hr)⟩
                have zP := IsPL.map (q := OA n₀ w.heap.size ((((wr.setCell ⟨w.heap.size + 1, 0, none⟩ (.int .i64 1)).setCell ⟨w.heap.size + 1, 1, none⟩ (.int .i64 (i : Int))).setCell ⟨w.heap.size + 1, 2, none⟩ (.string s)).setCell ⟨w.heap.size + 1, 3, none⟩ (.slice oa ts.length oc))) (B := ((((wr.setCell ⟨w.heap.size + 1, 0, none⟩ (.int .i64 1)).setCell ⟨w.heap.size + 1, 1, none⟩ (.int .i64 (i : Int))).setCell ⟨w.heap.size + 1, 2, none⟩ (.string s)).setCell ⟨w.heap.size + 1, 3, none⟩ (.slice oa ts.length oc))) (fun b hb => ⟨⟨hb.1.imp id (fun h => by omega), by simpa using hb.2⟩, heap_four (by rcases hb.1 with h | h <;> omega) _ _ _ _⟩) _ _ HX.out.2.2
                have w0 := zz.cell 0
                have w1 := zz.cell 1
                have w2 := zz.cell 2
                have w3 := zz.cell 3
                clear zz q0 q1 q2 q3 u0 u1 u2 u3 g0 g1 g2 g3
                generalize ((((wr.setCell ⟨w.heap.size + 1, 0, none⟩ (.int .i64 1)).setCell ⟨w.heap.size + 1, 1, none⟩ (.int .i64 (i : Int))).setCell ⟨w.heap.size + 1, 2, none⟩ (.string s)).setCell ⟨w.heap.size + 1, 3, none⟩ (.slice oa ts.length oc)) = FW at *
                simp at w0 w1 w2 w3
                refine bodyPost_ret (v := .tuple #[.agg #[.int .i64 1, .int .i64 (i : Int), .string s, .slice oa ts.length oc], .bool true]) (by simp [results, Tryd.results95, go_sem, w0, w1, w2, w3]) rfl ⟨_, _, _, _, _, _, by rw [hF2.out], by rw [hF2.out]; exact zp, zg, fun _ => ?_⟩
                rw [hSub.out, show ts.length = (ts.map (subT l)).length by simp]
                exact IsP.mk HOK.out.1 ⟨h21, h22⟩ HOK.out.2 (by simpa using HX.out.1) HX.out.2.1 zP
      | false =>
        have hpt : (1 : Int) = 1 ∧ (i : Int) < l.length ∧ (l.getD ((i : Int)).toNat default).free = false := ⟨rfl, by omega, by rw [HGD.out.1]; exact HGD.out.2⟩
        have hAp : Hid (apR l (.node 1 (i : Int) s ts) m d = (decide (0 ≤ m - ((l[i]).size : Int)) && decide (((l[i]).deep : Int) ≤ d), m - ((l[i]).size : Int))) := by rw [Hid, apR, if_pos hpt, HGD.out.1]
        have hSub : Hid (subT l (.node 1 (i : Int) s ts) = l[i]) := by rw [Hid, subT, if_pos ((putsB_free hl hx0).2 hpt.2), HGD.out.1]
        clear hpt
        have hszi := subOk_size hl (List.getElem_mem hi')
        have hdpi : (l[i]).deep ≤ 600 := by rcases subOk_mem hl (List.getElem_mem hi') with h | h; exact absurd h (by rw [HGD.out.2]; simp); exact (isB_size h).2
        obtain ⟨uk, un, uss, ul, ua, uc, ue, x0, x1, x2, x3, hut⟩ := HLL.out.node' hbb (Below.refl n₀ w) i hi'
        have HX := Lib.hid (fun (W : World) (hB : Below n₀ w W) => And.intro ((hB.cell (p := ⟨b, off + i * 4, none⟩) hbb).trans x0) (And.intro ((hB.cell (p := ⟨b, off + i * 4 + 1, none⟩) hbb).trans x1) (And.intro ((hB.cell (p := ⟨b, off + i * 4 + 2, none⟩) hbb).trans x2) ((hB.cell (p := ⟨b, off + i * 4 + 3, none⟩) hbb).trans x3))))
        obtain ⟨e0, e1, e2, e3⟩ := HX.out W1 (hB1.mono hn)
        have HUT := Lib.hid hut
        have HSZ := Lib.hid (refSize_any l[i] _ W1 ((hut.below (hB1.mono hn)).mono (by omega)) (by omega) (by omega))
        clear hut ue HGD x0 x1 x2 x3
        have q0 := qb.cell 0
        have q1 := qb.cell 1
        have q2 := qb.cell 2
        have q3 := qb.cell 3
        have l0 := qb.lt
        simp only [List.getElem?_toArray, List.getElem?_cons_succ, List.getElem?_cons_zero] at q0 q1 q2 q3
        have lb : b < W1.heap.size := by omega
        gi_wp2_with fail
        refine CallsIn.mono (callsIn_of_calls hF HSZ.out) ?_
        rintro e W2 ⟨rfl, hB2'⟩
        have qb2 := Box.keep hB2' qb
        have rb2 := Box.keep hB2' rb
        have pb2 := Box.keep hB2' pb
        have hB3 := hB1.trans (hB2'.mono hB1.size)
        have hs2 := hB2'.size
        clear hB2' HSZ q0 q1 q2 q3 e0 e1 e2 e3 l0 lb qb rb pb
        have y0 := pb2.cell 0
        have yf := pb2.frozen 0
        have lp := pb2.lt
        simp only [List.getElem?_toArray, List.getElem?_cons_zero] at y0
        gi_upto_region 4 with (fail)
        clear y0 yf lp
        have z0 := qb2.other (B' := P) (by omega) 0 (.int .i64 (m - ((l[i]).size : Int)))
        have z1 := rb2.other (B' := P) (by omega) 0 (.int .i64 (m - ((l[i]).size : Int)))
        have z2 : Box (W2.setCell ⟨P, 0, none⟩ (.int .i64 (m - ((l[i]).size : Int)))) P #[.int .i64 (m - ((l[i]).size : Int))] 3 := by simpa using pb2.set 0 (.int .i64 (m - ((l[i]).size : Int)))
        have zg := grown_trans (grown_b (some P) hB3) (grown_set P 0 W2 (.int .i64 (m - ((l[i]).size : Int))))
        have hsz : (W2.setCell ⟨P, 0, none⟩ (.int .i64 (m - ((l[i]).size : Int)))).heap.size = W2.heap.size := by simp
        generalize W2.setCell ⟨P, 0, none⟩ (.int .i64 (m - ((l[i]).size : Int))) = WZ at *
        rw [← hsz] at hs2
        clear hsz qb2 rb2 pb2 hB3
        have hwz := zg.size
        have HC : Hid (∀ ph W, PhC WZ (w.heap.size + 1) #[.int .i64 0, .int .i64 0, .string ⟨#[]⟩, .slice none 0 0] #[.int .i64 uk, .int .i64 un, .string uss, .slice ua ul.length uc] ph W → W.cell? ⟨w.heap.size, 1, none⟩ = some (.int .i64 i) ∧ W.cell? ⟨P, 0, none⟩ = some (.int .i64 (m - ((l[i]).size : Int))) ∧ W.cell? ⟨b, off + i * 4, none⟩ = some (.int .i64 uk) ∧ W.cell? ⟨b, off + i * 4 + 1, none⟩ = some (.int .i64 un) ∧ W.cell? ⟨b, off + i * 4 + 2, none⟩ = some (.string uss) ∧ W.cell? ⟨b, off + i * 4 + 3, none⟩ = some (.slice ua ul.length uc)) := by
          intro ph W h
          have hg := h.gr
          have a1 := (z0.grown hg (by omega)).cell 1
          have a2 := (z2.grown hg (by omega)).cell 0
          simp only [List.getElem?_toArray, List.getElem?_cons_succ, List.getElem?_cons_zero] at a1 a2
          exact ⟨a1, a2, HX.out W ((grown_below' zg hn (fun g e => by cases e; exact hP)).trans (grown_below' hg (by omega) (fun g e => by cases e; omega)))⟩
        have HZ := Lib.hid (And.intro z1 (And.intro z2 (And.intro zg trivial)))
        clear z0 z1 z2 zg HX
        by_cases hz : 0 ≤ m - ((l[i]).size : Int)
        · by_cases hz2 : ((l[i]).deep : Int) ≤ d
          · have hR : Hid (apR l (.node 1 (i : Int) s ts) m d = (true, m - ((l[i]).size : Int))) := by rw [Hid, hAp.out]; simp; omega
            refine wpIn_region_phase 15 14 [.det (.slice (some ⟨b, off, none⟩) l.length cl), .det (.pointer (some ⟨w.heap.size, 1, none⟩)), .det (.int .i64 i), .det (.pointer (some ⟨b, off + i * 4, none⟩)), .det (.agg #[.int .i64 uk, .int .i64 un, .string uss, .slice ua ul.length uc]), .det (.pointer (some ⟨P, 0, none⟩)), .det (.pointer (some ⟨P, 0, none⟩)), .det (.int .i64 (m - ((l[i]).size : Int))), .det (.bool true), .det (.bool true), .det (.int .i64 ((l[i]).deep : Int)), .det (.int .i64 d), .det (.bool true), .det (.bool true)] (fun _ _ => True) (PhC WZ (w.heap.size + 1) #[.int .i64 0, .int .i64 0, .string ⟨#[]⟩, .slice none 0 0] #[.int .i64 uk, .int .i64 un, .string uss, .slice ua ul.length uc]) hf hd (fun k f args w R h => callsIn_of_calls hF h) (by kernel_rfl) (by kernel_rfl) (by omega) (by kernel_rfl) ?_ (PhC.start HZ.out.1) ?_
            · intro y hy
              simp only [List.mem_cons, List.not_mem_nil, or_false] at hy
              rcases hy with rfl | rfl | rfl | rfl | rfl | rfl | rfl | rfl | rfl | rfl | rfl | rfl | rfl | rfl <;> first | trivial
            simp only [List.take_succ_cons, List.take_zero, List.drop_succ_cons, List.drop_zero]
            iterate 14 (
              refine wpP_step (fun K hK => ?_)
              go_simp
              apply And.intro
              · rw [yieldsP, if_neg (by decide)]
                intro ph w' hC _
                obtain ⟨q1, q2, q3, q4, q5, q6⟩ := HC.out ph w' hC
                have Hq := Lib.hid hC
                clear hC
                go_simp
                first | exact Hq.out | exact ⟨trivial, Hq.out⟩ | exact ⟨Hq.out, by omega⟩ | exact ⟨trivial, Hq.out, rfl⟩ | exact ⟨trivial, Hq.out, by omega⟩
              refine nextM_det (hK _ _ ?_)
              clear hK K)
            refine wpP_step (fun K hK => ?_)
            go_simp
            apply And.intro
            · rw [yieldsP, if_pos rfl]
              intro w' hC _
              have hbx : Box w' (w.heap.size + 1) #[.int .i64 0, .int .i64 0, .string ⟨#[]⟩, .slice none 0 0] 25 := hC.2
              have c0 := hbx.cell 0
              have c1 := hbx.cell 1
              have c2 := hbx.cell 2
              have c3 := hbx.cell 3
              have g0 := hbx.frozen 0
              have g1 := hbx.frozen 1
              have g2 := hbx.frozen 2
              have g3 := hbx.frozen 3
              have l1 := hbx.lt
              simp only [List.getElem?_toArray, List.getElem?_cons_succ, List.getElem?_cons_zero] at c0 c1 c2 c3
              have Hq := Lib.hid hC
              clear hC hbx
              go_simp
              first | exact Hq.out.put | exact ⟨trivial, Hq.out.put⟩ | exact ⟨trivial, Hq.out.put, trivial⟩
            refine nextM_any (fun uu => hK _ _ ?_)
            clear hK K
            refine wpP_nil ?_
            intro W5 hC hE
            clear hE
            obtain ⟨g5, b5⟩ := (show WZ.grownBy W5 (some (w.heap.size + 1)) ∧ Box W5 (w.heap.size + 1) #[.int .i64 uk, .int .i64 un, .string uss, .slice ua ul.length uc] 25 from hC)
            clear hC
            have zp := HZ.out.2.1.grown g5 (by omega)
            have zg : w.grownBy W5 (some P) := ⟨g5.os.trans HZ.out.2.2.1.os, g5.tape.trans HZ.out.2.2.1.tape, g5.output.trans HZ.out.2.2.1.output, Nat.le_trans HZ.out.2.2.1.size g5.size, fun i hi hr => (g5.block i (by omega) (fun e => by cases e; omega)).trans (HZ.out.2.2.1.block i hi hr)⟩
            have zP := IsP.map (q := OA n₀ w.heap.size W5) (B := W5) (fun b hb => ⟨⟨Or.inl hb, by have := zg.size; omega⟩, zg.block b (by omega) (fun e => by cases e; omega)⟩) _ _ HUT.out.toP
            have HF := Lib.hid (And.intro zp (And.intro zg zP))
            clear zp zg zP
            have w0 := b5.cell 0
            have w1 := b5.cell 1
            have w2 := b5.cell 2
            have w3 := b5.cell 3
            simp only [List.getElem?_toArray, List.getElem?_cons_succ, List.getElem?_cons_zero] at w0 w1 w2 w3
            have l5 := b5.lt
            clear g5 b5
            gi_wp2_with fail
            refine bodyPost_ret (v := .tuple #[.agg #[.int .i64 uk, .int .i64 un, .string uss, .slice ua ul.length uc], .bool true]) (by simp [results, Tryd.results95, go_sem, w0, w1, w2, w3]) rfl ⟨_, _, _, _, _, _, by rw [hR.out], by rw [hR.out]; exact HF.out.1, HF.out.2.1, fun _ => by rw [hSub.out]; exact HF.out.2.2⟩
          · have hR : Hid (apR l (.node 1 (i : Int) s ts) m d = (false, m - ((l[i]).size : Int))) := by rw [Hid, hAp.out]; simp; omega
            refine wpIn_region_phase 15 14 [.det (.slice (some ⟨b, off, none⟩) l.length cl), .det (.pointer (some ⟨w.heap.size, 1, none⟩)), .det (.int .i64 i), .det (.pointer (some ⟨b, off + i * 4, none⟩)), .det (.agg #[.int .i64 uk, .int .i64 un, .string uss, .slice ua ul.length uc]), .det (.pointer (some ⟨P, 0, none⟩)), .det (.pointer (some ⟨P, 0, none⟩)), .det (.int .i64 (m - ((l[i]).size : Int))), .det (.bool true), .det (.bool true), .det (.int .i64 ((l[i]).deep : Int)), .det (.int .i64 d), .det (.bool false), .det (.bool false)] (fun _ _ => True) (PhC WZ (w.heap.size + 1) #[.int .i64 0, .int .i64 0, .string ⟨#[]⟩, .slice none 0 0] #[.int .i64 uk, .int .i64 un, .string uss, .slice ua ul.length uc]) hf hd (fun k f args w R h => callsIn_of_calls hF h) (by kernel_rfl) (by kernel_rfl) (by omega) (by kernel_rfl) ?_ (PhC.start HZ.out.1) ?_
            · intro y hy
              simp only [List.mem_cons, List.not_mem_nil, or_false] at hy
              rcases hy with rfl | rfl | rfl | rfl | rfl | rfl | rfl | rfl | rfl | rfl | rfl | rfl | rfl | rfl <;> first | trivial
            simp only [List.take_succ_cons, List.take_zero, List.drop_succ_cons, List.drop_zero]
            iterate 14 (
              refine wpP_step (fun K hK => ?_)
              go_simp
              apply And.intro
              · rw [yieldsP, if_neg (by decide)]
                intro ph w' hC _
                obtain ⟨q1, q2, q3, q4, q5, q6⟩ := HC.out ph w' hC
                have Hq := Lib.hid hC
                clear hC
                go_simp
                first | exact Hq.out | exact ⟨trivial, Hq.out⟩ | exact ⟨Hq.out, by omega⟩ | exact ⟨trivial, Hq.out, rfl⟩ | exact ⟨trivial, Hq.out, by omega⟩
              refine nextM_det (hK _ _ ?_)
              clear hK K)
            refine wpP_step (fun K hK => ?_)
            go_simp
            apply And.intro
            · rw [yieldsP, if_pos rfl]
              intro w' hC _
              have hbx : Box w' (w.heap.size + 1) #[.int .i64 0, .int .i64 0, .string ⟨#[]⟩, .slice none 0 0] 25 := hC.2
              have c0 := hbx.cell 0
              have c1 := hbx.cell 1
              have c2 := hbx.cell 2
              have c3 := hbx.cell 3
              have g0 := hbx.frozen 0
              have g1 := hbx.frozen 1
              have g2 := hbx.frozen 2
              have g3 := hbx.frozen 3
              have l1 := hbx.lt
              simp only [List.getElem?_toArray, List.getElem?_cons_succ, List.getElem?_cons_zero] at c0 c1 c2 c3
              have Hq := Lib.hid hC
              clear hC hbx
              go_simp
              first | exact Hq.out.put | exact ⟨trivial, Hq.out.put⟩ | exact ⟨trivial, Hq.out.put, trivial⟩
            refine nextM_any (fun uu => hK _ _ ?_)
            clear hK K
            refine wpP_nil ?_
            intro W5 hC hE
            clear hE
            obtain ⟨g5, b5⟩ := (show WZ.grownBy W5 (some (w.heap.size + 1)) ∧ Box W5 (w.heap.size + 1) #[.int .i64 uk, .int .i64 un, .string uss, .slice ua ul.length uc] 25 from hC)
            clear hC
            have zp := HZ.out.2.1.grown g5 (by omega)
            have zg : w.grownBy W5 (some P) := ⟨g5.os.trans HZ.out.2.2.1.os, g5.tape.trans HZ.out.2.2.1.tape, g5.output.trans HZ.out.2.2.1.output, Nat.le_trans HZ.out.2.2.1.size g5.size, fun i hi hr => (g5.block i (by omega) (fun e => by cases e; omega)).trans (HZ.out.2.2.1.block i hi hr)⟩
            have zP := IsP.map (q := OA n₀ w.heap.size W5) (B := W5) (fun b hb => ⟨⟨Or.inl hb, by have := zg.size; omega⟩, zg.block b (by omega) (fun e => by cases e; omega)⟩) _ _ HUT.out.toP
            have HF := Lib.hid (And.intro zp (And.intro zg zP))
            clear zp zg zP
            have w0 := b5.cell 0
            have w1 := b5.cell 1
            have w2 := b5.cell 2
            have w3 := b5.cell 3
            simp only [List.getElem?_toArray, List.getElem?_cons_succ, List.getElem?_cons_zero] at w0 w1 w2 w3
            have l5 := b5.lt
            clear g5 b5
            gi_wp2_with fail
            refine bodyPost_ret (v := .tuple #[.agg #[.int .i64 uk, .int .i64 un, .string uss, .slice ua ul.length uc], .bool false]) (by simp [results, Tryd.results95, go_sem, w0, w1, w2, w3]) rfl ⟨_, _, _, _, _, _, by rw [hR.out], by rw [hR.out]; exact HF.out.1, HF.out.2.1, fun _ => by rw [hSub.out]; exact HF.out.2.2⟩
        · have hR : Hid (apR l (.node 1 (i : Int) s ts) m d = (false, m - ((l[i]).size : Int))) := by rw [Hid, hAp.out]; simp; omega
          refine wpIn_region_phase 15 14 [.det (.slice (some ⟨b, off, none⟩) l.length cl), .det (.pointer (some ⟨w.heap.size, 1, none⟩)), .det (.int .i64 i), .det (.pointer (some ⟨b, off + i * 4, none⟩)), .det (.agg #[.int .i64 uk, .int .i64 un, .string uss, .slice ua ul.length uc]), .det (.pointer (some ⟨P, 0, none⟩)), .det (.pointer (some ⟨P, 0, none⟩)), .det (.int .i64 (m - ((l[i]).size : Int))), .det (.bool false), .det (.bool false), .det (.int .i64 ((l[i]).deep : Int)), .det (.int .i64 d), .det (.bool false), .det (.bool false)] (fun _ _ => True) (PhC WZ (w.heap.size + 1) #[.int .i64 0, .int .i64 0, .string ⟨#[]⟩, .slice none 0 0] #[.int .i64 uk, .int .i64 un, .string uss, .slice ua ul.length uc]) hf hd (fun k f args w R h => callsIn_of_calls hF h) (by kernel_rfl) (by kernel_rfl) (by omega) (by kernel_rfl) ?_ (PhC.start HZ.out.1) ?_
          · intro y hy
            simp only [List.mem_cons, List.not_mem_nil, or_false] at hy
            rcases hy with rfl | rfl | rfl | rfl | rfl | rfl | rfl | rfl | rfl | rfl | rfl | rfl | rfl | rfl <;> first | trivial
          simp only [List.take_succ_cons, List.take_zero, List.drop_succ_cons, List.drop_zero]
          iterate 10 (
            refine wpP_step (fun K hK => ?_)
            go_simp
            apply And.intro
            · rw [yieldsP, if_neg (by decide)]
              intro ph w' hC _
              obtain ⟨q1, q2, q3, q4, q5, q6⟩ := HC.out ph w' hC
              have Hq := Lib.hid hC
              clear hC
              go_simp
              first | exact Hq.out | exact ⟨trivial, Hq.out⟩ | exact ⟨Hq.out, by omega⟩ | exact ⟨trivial, Hq.out, rfl⟩ | exact ⟨trivial, Hq.out, by omega⟩
            refine nextM_det (hK _ _ ?_)
            clear hK K)
          iterate 3 (
            refine wpP_step (fun K hK => ?_)
            go_simp
            refine hK _ _ ?_
            clear hK K)
          iterate 1 (
            refine wpP_step (fun K hK => ?_)
            go_simp
            apply And.intro
            · rw [yieldsP, if_neg (by decide)]
              intro ph w' hC _
              obtain ⟨q1, q2, q3, q4, q5, q6⟩ := HC.out ph w' hC
              have Hq := Lib.hid hC
              clear hC
              go_simp
              first | exact Hq.out | exact ⟨trivial, Hq.out⟩ | exact ⟨Hq.out, by omega⟩ | exact ⟨trivial, Hq.out, rfl⟩ | exact ⟨trivial, Hq.out, by omega⟩
            refine nextM_det (hK _ _ ?_)
            clear hK K)
          refine wpP_step (fun K hK => ?_)
          go_simp
          apply And.intro
          · rw [yieldsP, if_pos rfl]
            intro w' hC _
            have hbx : Box w' (w.heap.size + 1) #[.int .i64 0, .int .i64 0, .string ⟨#[]⟩, .slice none 0 0] 25 := hC.2
            have c0 := hbx.cell 0
            have c1 := hbx.cell 1
            have c2 := hbx.cell 2
            have c3 := hbx.cell 3
            have g0 := hbx.frozen 0
            have g1 := hbx.frozen 1
            have g2 := hbx.frozen 2
            have g3 := hbx.frozen 3
            have l1 := hbx.lt
            simp only [List.getElem?_toArray, List.getElem?_cons_succ, List.getElem?_cons_zero] at c0 c1 c2 c3
            have Hq := Lib.hid hC
            clear hC hbx
            go_simp
            first | exact Hq.out.put | exact ⟨trivial, Hq.out.put⟩ | exact ⟨trivial, Hq.out.put, trivial⟩
          refine nextM_any (fun uu => hK _ _ ?_)
          clear hK K
          refine wpP_nil ?_
          intro W5 hC hE
          clear hE
          obtain ⟨g5, b5⟩ := (show WZ.grownBy W5 (some (w.heap.size + 1)) ∧ Box W5 (w.heap.size + 1) #[.int .i64 uk, .int .i64 un, .string uss, .slice ua ul.length uc] 25 from hC)
          clear hC
          have zp := HZ.out.2.1.grown g5 (by omega)
          have zg : w.grownBy W5 (some P) := ⟨g5.os.trans HZ.out.2.2.1.os, g5.tape.trans HZ.out.2.2.1.tape, g5.output.trans HZ.out.2.2.1.output, Nat.le_trans HZ.out.2.2.1.size g5.size, fun i hi hr => (g5.block i (by omega) (fun e => by cases e; omega)).trans (HZ.out.2.2.1.block i hi hr)⟩
          have zP := IsP.map (q := OA n₀ w.heap.size W5) (B := W5) (fun b hb => ⟨⟨Or.inl hb, by have := zg.size; omega⟩, zg.block b (by omega) (fun e => by cases e; omega)⟩) _ _ HUT.out.toP
          have HF := Lib.hid (And.intro zp (And.intro zg zP))
          clear zp zg zP
          have w0 := b5.cell 0
          have w1 := b5.cell 1
          have w2 := b5.cell 2
          have w3 := b5.cell 3
          simp only [List.getElem?_toArray, List.getElem?_cons_succ, List.getElem?_cons_zero] at w0 w1 w2 w3
          have l5 := b5.lt
          clear g5 b5
          gi_wp2_with fail
          refine bodyPost_ret (v := .tuple #[.agg #[.int .i64 uk, .int .i64 un, .string uss, .slice ua ul.length uc], .bool false]) (by simp [results, Tryd.results95, go_sem, w0, w1, w2, w3]) rfl ⟨_, _, _, _, _, _, by rw [hR.out], by rw [hR.out]; exact HF.out.1, HF.out.2.1, fun _ => by rw [hSub.out]; exact HF.out.2.2⟩
    · have hnp : ¬((1 : Int) = (1 : Int) ∧ x < l.length ∧ (l.getD x.toNat default).free = false) := fun h => hi h.2.1
      have hAp : Hid (apR l (.node 1 x s ts) m d = if m - 1 < 0 ∨ d < 1 then (false, m - 1) else apRL l ts (m - 1) (d - 1)) := by rw [Hid, apR, if_neg hnp]
      have hSub : Hid (subT l (.node 1 x s ts) = .node 1 x s (ts.map (subT l))) := by rw [Hid, subT, if_neg (fun h => hnp ⟨rfl, (putsB_free hl hx0).1 h⟩), subL_map]
      clear hnp
      have hi' : (l.length : Int) ≤ x := by omega
      clear hi
      have b0 : Box (((w.setCell ⟨P, 0, none⟩ (.int .i64 (m - 1))).alloc (.cells #[.int .i64 1, .int .i64 x, .string s, .slice a ts.length c] 25)).alloc (.cells #[.int .i64 0, .int .i64 0, .string ⟨#[]⟩, .slice none 0 0] 25)) w.heap.size #[.int .i64 1, .int .i64 x, .string s, .slice a ts.length c] 25 := (Box.at (by simp)).alloc _
      have b1 : Box (((w.setCell ⟨P, 0, none⟩ (.int .i64 (m - 1))).alloc (.cells #[.int .i64 1, .int .i64 x, .string s, .slice a ts.length c] 25)).alloc (.cells #[.int .i64 0, .int .i64 0, .string ⟨#[]⟩, .slice none 0 0] 25)) (w.heap.size + 1) #[.int .i64 0, .int .i64 0, .string ⟨#[]⟩, .slice none 0 0] 25 := Box.at (by simp)
      have bp : Box (((w.setCell ⟨P, 0, none⟩ (.int .i64 (m - 1))).alloc (.cells #[.int .i64 1, .int .i64 x, .string s, .slice a ts.length c] 25)).alloc (.cells #[.int .i64 0, .int .i64 0, .string ⟨#[]⟩, .slice none 0 0] 25)) P #[.int .i64 (m - 1)] 3 := Box.alloc (Box.alloc (by simpa using hb.set 0 (.int .i64 (m - 1))) _) _
      have hgz : w.grownBy (((w.setCell ⟨P, 0, none⟩ (.int .i64 (m - 1))).alloc (.cells #[.int .i64 1, .int .i64 x, .string s, .slice a ts.length c] 25)).alloc (.cells #[.int .i64 0, .int .i64 0, .string ⟨#[]⟩, .slice none 0 0] 25)) (some P) := grown_trans (grown_trans (grown_set P 0 w _) (World.grownBy_alloc _ _ _)) (World.grownBy_alloc _ _ _)
      have hsz3 : (((w.setCell ⟨P, 0, none⟩ (.int .i64 (m - 1))).alloc (.cells #[.int .i64 1, .int .i64 x, .string s, .slice a ts.length c] 25)).alloc (.cells #[.int .i64 0, .int .i64 0, .string ⟨#[]⟩, .slice none 0 0] 25)).heap.size = w.heap.size + 2 := by simp
      have o0 := hb.cell 0
      have of := hb.frozen 0
      simp only [List.getElem?_toArray, List.getElem?_cons_zero] at o0
      have q0 := b0.cell 0
      have q1 := b0.cell 1
      have q2 := b0.cell 2
      have q3 := b0.cell 3
      have u0 := b1.cell 0
      have u1 := b1.cell 1
      have u2 := b1.cell 2
      have u3 := b1.cell 3
      have y0 := bp.cell 0
      have yf := bp.frozen 0
      have g0 := b1.frozen 0
      have g1 := b1.frozen 1
      have g2 := b1.frozen 2
      have g3 := b1.frozen 3
      have l0 := b0.lt
      have l1 := b1.lt
      have lp := bp.lt
      simp only [List.getElem?_toArray, List.getElem?_cons_succ, List.getElem?_cons_zero] at q0 q1 q2 q3 u0 u1 u2 u3 y0
      have HB := Lib.hid (And.intro b0 (And.intro b1 (And.intro bp hgz)))
      clear b0 b1 bp hgz
      by_cases hc : m - 1 < 0
      · have hR : Hid (apR l (.node 1 x s ts) m d = (false, m - 1)) := by rw [Hid, hAp.out]; exact if_pos (by omega)
        refine (callsIn_wide (n := 9)).1 ?_
        generalize hF : Fence.wide = F
        have hd : F.depth = none := by subst hF; rfl
        have hf : ∀ f, F.fn f := fun f => by subst hF; trivial
        have hro : F.round = none := by subst hF; rfl
        refine callsIn_of_wp Tryd.func95 rfl (hf _) ?_ hro
        simp only [Tryd.ntmps95, List.size_toArray, List.length_cons, List.length_nil, Nat.reduceAdd, Nat.reduceSub, Array.replicate_succ, Array.replicate_zero, List.push_toArray, List.append_toArray, List.nil_append, List.cons_append]
        gi_wp2_with fail
        refine bodyPost_ret (v := .tuple #[.agg #[.int .i64 0, .int .i64 0, .string ⟨#[]⟩, .slice none 0 0], .bool false]) (by simp [results, Tryd.results95, go_sem]) rfl ⟨_, _, _, _, _, _, by rw [hR.out], by rw [hR.out]; exact HB.out.2.2.1, HB.out.2.2.2, fun h => by rw [hR.out] at h; cases h⟩
      · have hc1 : 1 ≤ m := by omega
        clear hc
        by_cases hcd : d < 1
        · have hR : Hid (apR l (.node 1 x s ts) m d = (false, m - 1)) := by rw [Hid, hAp.out]; exact if_pos (by omega)
          refine (callsIn_wide (n := 9)).1 ?_
          generalize hF : Fence.wide = F
          have hd : F.depth = none := by subst hF; rfl
          have hf : ∀ f, F.fn f := fun f => by subst hF; trivial
          have hro : F.round = none := by subst hF; rfl
          refine callsIn_of_wp Tryd.func95 rfl (hf _) ?_ hro
          simp only [Tryd.ntmps95, List.size_toArray, List.length_cons, List.length_nil, Nat.reduceAdd, Nat.reduceSub, Array.replicate_succ, Array.replicate_zero, List.push_toArray, List.append_toArray, List.nil_append, List.cons_append]
          gi_wp2_with fail
          refine bodyPost_ret (v := .tuple #[.agg #[.int .i64 0, .int .i64 0, .string ⟨#[]⟩, .slice none 0 0], .bool false]) (by simp [results, Tryd.results95, go_sem]) rfl ⟨_, _, _, _, _, _, by rw [hR.out], by rw [hR.out]; exact HB.out.2.2.1, HB.out.2.2.2, fun h => by rw [hR.out] at h; cases h⟩
        · have hd3 : 1 ≤ d := by omega
          clear hcd
          have hR : Hid (apR l (.node 1 x s ts) m d = apRL l ts (m - 1) (d - 1)) := by rw [Hid, hAp.out]; exact if_neg (by omega)
          refine (callsIn_wide (n := 9)).1 ?_
          generalize hF : Fence.wide = F
          have hd : F.depth = none := by subst hF; rfl
          have hf : ∀ f, F.fn f := fun f => by subst hF; trivial
          have hro : F.round = none := by subst hF; rfl
          refine callsIn_of_wp Tryd.func95 rfl (hf _) ?_ hro
          simp only [Tryd.ntmps95, List.size_toArray, List.length_cons, List.length_nil, Nat.reduceAdd, Nat.reduceSub, Array.replicate_succ, Array.replicate_zero, List.push_toArray, List.append_toArray, List.nil_append, List.cons_append]
          gi_wp2_with fail
          have hS0 : ApB n₀ P (w.heap.size + 1 + 1) l w 1 x s ts a c 0 (.slice none 0 0) [] ((((w.setCell ⟨P, 0, none⟩ (.int .i64 (m - 1))).alloc (.cells #[.int .i64 1, .int .i64 x, .string s, .slice a ts.length c] 25)).alloc (.cells #[.int .i64 0, .int .i64 0, .string ⟨#[]⟩, .slice none 0 0] 25)).alloc (.cells #[.int .i64 1, .int .i64 x, .string s, .slice none 0 0] 25)) := ⟨HB.out.1.alloc _, HB.out.2.1.alloc _, Box.at (by simp), by omega, RowG.nil (grown_trans HB.out.2.2.2 (World.grownBy_alloc _ _ _)) hn (fun p e => by cases e; exact ⟨hP, hPw⟩) (by omega) (by simp)⟩
          have hbp0 := HB.out.2.2.1.alloc (.cells #[.int .i64 1, .int .i64 x, .string s, .slice none 0 0] 25)
          clear q0 q1 q2 q3 u0 u1 u2 u3 y0 yf g0 g1 g2 g3 o0 of
          generalize ((((w.setCell ⟨P, 0, none⟩ (.int .i64 (m - 1))).alloc (.cells #[.int .i64 1, .int .i64 x, .string s, .slice a ts.length c] 25)).alloc (.cells #[.int .i64 0, .int .i64 0, .string ⟨#[]⟩, .slice none 0 0] 25)).alloc (.cells #[.int .i64 1, .int .i64 x, .string s, .slice none 0 0] 25)) = WS at *
          obtain ⟨i0, hi, hz0, hz1, hz2⟩ := info_parts infoTerm
          gi_loopw [13] (fun iv wr => ∃ (j : Nat) (y : Int) (ov : Value) (xs : List Value), j ≤ ts.length ∧ iv = .int .i64 j ∧ ApB n₀ P (w.heap.size + 1 + 1) l w 1 x s ts a c j ov xs wr ∧ Box wr P #[.int .i64 y] 3 ∧ apRL l (ts.take j) (m - 1) (d - 1) = (true, y) ∧ 0 ≤ y ∧ y ≤ 4000) (fun iv _ => ts.length - (intOf iv).toNat)
          case atStart => exact ⟨0, m - 1, _, _, Nat.zero_le _, rfl, hS0, hbp0, by simp [apRL], by omega, by omega⟩
          case round =>
            clear hS0 hbp0
            obtain ⟨j, y, ov, xs, hj, rfl, hS, hbp, hok, hy0, hy1⟩ := hrel
            have HA := Lib.hid (And.intro hS (And.intro hbp hok))
            have hBr := hS.row.below
            have c3 := hS.b0.cell 3
            have lb0 := hS.b0.lt
            have hwn : n₀ ≤ wr.heap.size := by have := hS.row.grown.size; omega
            simp only [List.getElem?_toArray, List.getElem?_cons_succ, List.getElem?_cons_zero] at c3
            clear hS hbp hok
            by_cases hlt : j < ts.length
            · obtain ⟨b, off, rfl, hbb⟩ := HTS.out.addr (by omega)
              obtain ⟨tk, tn, tss, tl, ta, tc, te, d0, d1, d2, d3, ht⟩ := HTS.out.node' hbb hBr j hlt
              have hbw : b < wr.heap.size := by omega
              have hgt : (ts[j]).good = true := by
                have h := HG.out
                simp only [Tr.good, Bool.and_eq_true] at h
                exact goodL_mem h.2 (List.getElem_mem hlt)
              have hcall := HI.out ts[j] (List.getElem_mem hlt) _ y (d - 1) wr hgt (ht.below hBr) hwn (HLL.out.below hBr) HA.out.2.1 hy0 hy1 (by omega) (by omega) (by have := size_mem (List.getElem_mem hlt); omega)
              have hap := apR_ok hl ts[j] y (d - 1) hgt hy0
              obtain ⟨rz, hrz⟩ : ∃ rz, apR l ts[j] y (d - 1) = rz := ⟨_, rfl⟩
              rw [hrz] at hcall hap
              obtain ⟨r, z⟩ := rz
              have HC := Lib.hid hcall
              have HRZ := Lib.hid (And.intro hrz hap)
              clear te ht hcall hBr hrz hap hgt
              gi_wp2_with fail
              refine CallsIn.mono (callsIn_of_calls hF HC.out) ?_
              rintro e W5 ⟨yk, yx, ys, ya, ym, yc, rfl, hbp5, hgr, hP5⟩
              dsimp only at hbp5 hP5 ⊢
              have hA5 := HA.out.1.up hgr
              have hsz5 := hgr.size
              clear HC d0 d1 d2 d3 c3
              have hA6 := hA5.up (World.grownBy_alloc W5 (.cells #[.int .i64 yk, .int .i64 yx, .string ys, .slice ya ym yc] 25) (some P))
              have hbp6 := hbp5.alloc (.cells #[.int .i64 yk, .int .i64 yx, .string ys, .slice ya ym yc] 25)
              have y0 : Box (W5.alloc (.cells #[.int .i64 yk, .int .i64 yx, .string ys, .slice ya ym yc] 25)) W5.heap.size #[.int .i64 yk, .int .i64 yx, .string ys, .slice ya ym yc] 25 := Box.at rfl
              cases r with
              | false =>
                have hF2 : Hid (apR l (.node 1 x s ts) m d = (false, z)) := hR.out.trans (apRL_false ts _ _ z (j + 1) (by rw [apRL_take ts _ _ y j hlt HA.out.2.2, HRZ.out.1]; rfl))
                clear hP5 y0 hA5
                have u0 := hA6.b1.cell 0
                have u1 := hA6.b1.cell 1
                have u2 := hA6.b1.cell 2
                have u3 := hA6.b1.cell 3
                have g0 := hA6.b1.frozen 0
                have g1 := hA6.b1.frozen 1
                have g2 := hA6.b1.frozen 2
                have g3 := hA6.b1.frozen 3
                have l1 := hA6.b1.lt
                simp only [List.getElem?_toArray, List.getElem?_cons_succ, List.getElem?_cons_zero] at u0 u1 u2 u3
                have HA6 := Lib.hid (And.intro hA6 hbp6)
                clear hA6 hbp6 hbp5
                gi_wp2_with fail
                have zz := HA6.out.1.b1.four (.int .i64 0) (.int .i64 0) (.string ⟨#[]⟩) (.slice none 0 0)
                have zp := (((HA6.out.2.other (B' := w.heap.size + 1) (by omega) 0 (.int .i64 0)).other (B' := w.heap.size + 1) (by omega) 1 (.int .i64 0)).other (B' := w.heap.size + 1) (by omega) 2 (.string ⟨#[]⟩)).other (B' := w.heap.size + 1) (by omega) 3 (.slice none 0 0)
                have zg : w.grownBy (((((W5.alloc (.cells #[.int .i64 yk, .int .i64 yx, .string ys, .slice ya ym yc] 25)).setCell ⟨w.heap.size + 1, 0, none⟩ (.int .i64 0)).setCell ⟨w.heap.size + 1, 1, none⟩ (.int .i64 0)).setCell ⟨w.heap.size + 1, 2, none⟩ (.string ⟨#[]⟩)).setCell ⟨w.heap.size + 1, 3, none⟩ (.slice none 0 0)) (some P) := ⟨HA6.out.1.row.grown.os, HA6.out.1.row.grown.tape, HA6.out.1.row.grown.output, by have := HA6.out.1.row.grown.size; simp at this ⊢; omega, fun i hi hr => (heap_four (by omega) _ _ _ _).trans (HA6.out.1.row.grown.block i hi hr)⟩
                have w0 := zz.cell 0
                have w1 := zz.cell 1
                have w2 := zz.cell 2
                have w3 := zz.cell 3
                clear zz u0 u1 u2 u3 g0 g1 g2 g3
                generalize (((((W5.alloc (.cells #[.int .i64 yk, .int .i64 yx, .string ys, .slice ya ym yc] 25)).setCell ⟨w.heap.size + 1, 0, none⟩ (.int .i64 0)).setCell ⟨w.heap.size + 1, 1, none⟩ (.int .i64 0)).setCell ⟨w.heap.size + 1, 2, none⟩ (.string ⟨#[]⟩)).setCell ⟨w.heap.size + 1, 3, none⟩ (.slice none 0 0)) = FW at *
                simp at w0 w1 w2 w3
                refine bodyPost_ret (v := .tuple #[.agg #[.int .i64 0, .int .i64 0, .string ⟨#[]⟩, .slice none 0 0], .bool false]) (by simp [results, Tryd.results95, go_sem, w0, w1, w2, w3]) rfl ⟨_, _, _, _, _, _, by rw [hF2.out], by rw [hF2.out]; exact zp, zg, fun h => by rw [hF2.out] at h; cases h⟩
              | true =>
                have hz := HRZ.out.2.1.1 rfl
                have hz2' := HRZ.out.2.2 rfl
                have hzr : 0 ≤ z ∧ z ≤ 4000 := by omega
                have hPo : IsP (OB n₀ (w.heap.size + 1 + 1 + 1) ov (W5.alloc (.cells #[.int .i64 yk, .int .i64 yx, .string ys, .slice ya ym yc] 25))) (W5.alloc (.cells #[.int .i64 yk, .int .i64 yx, .string ys, .slice ya ym yc] 25)) (subT l ts[j]) (.agg #[.int .i64 yk, .int .i64 yx, .string ys, .slice ya ym yc]) := OB.from HA.out.1.row (Nat.le_refl _) (IsP.map (fun b hb => ⟨⟨hb.1, by have := hb.2; simp; omega⟩, Below.heap_alloc W5 _ b hb.2⟩) _ _ (hP5 rfl))
                have hok' : apRL l (ts.take (j + 1)) (m - 1) (d - 1) = (true, z) := by rw [apRL_take ts _ _ y j hlt HA.out.2.2, HRZ.out.1]; rfl
                have p0 := y0.cell 0
                have p1 := y0.cell 1
                have p2 := y0.cell 2
                have p3 := y0.cell 3
                have c3 := hA6.b2.cell 3
                have l2 := hA6.b2.lt
                simp only [List.getElem?_toArray, List.getElem?_cons_succ, List.getElem?_cons_zero] at p0 p1 p2 p3 c3
                have hlen : ((ts.take j).map (subT l)).length = j := by simp; omega
                have hown := hA6.row.own
                rw [hlen] at hown
                have hlo := hA6.row.hlo
                have HX := Lib.hid (And.intro hA6 (And.intro hPo (And.intro hok' (And.intro hlen hbp6))))
                clear hA5 hA6 hPo hok' hlen hP5 y0 hbp5 hbp6 hz hz2'
                gi_wp2_with (gi_at_builtin; refine wpListIn_append_where _ rfl _ _ 22 rfl (w.heap.size + 1 + 1 + 1) 25 i0 _ 4 56 Tryd.underlying22 hi hz0 hz1 hz2 rfl (by decide) _ _ _ rfl (World.ownsRow.alloc hown _) ⟨W5.heap.size + 1, 0, none⟩ 1 1 [.int .i64 yk, .int .i64 yx, .string ys, .slice ya ym yc] rfl rfl (cells_of_box (Box.at (by simp))) (one_cells _ _ _ _ _ _) (by unfold maxLen; omega) (by omega) (by simp; simp at hlo; omega) ?_)
                intro v2 w3 hown3 hgrow hwh
                obtain ⟨hA6, hPo, hok', hlen, hbp6⟩ := HX.out
                have hRn := hA6.row.push hPo (by rw [hlen]; exact hown3) hgrow (fun b h => (hwh b h).imp id (fun h => by first | omega | (simp; omega) | (simp at h ⊢; omega)))
                rw [← List.map_singleton, ← List.map_append, ← List.take_succ_eq_append_getElem hlt] at hRn
                obtain ⟨g2', cap2, hv2⟩ := ownsRow_succ hown3
                have hbo := hA6.bo
                have hne : ∀ B, B < w.heap.size + 1 + 1 + 1 → some B ≠ ov.ownBlock := fun B hB e => by have := (hA6.row.block e.symm).1; omega
                have n0 : Box w3 w.heap.size _ 25 := (hgrow.block _ (hA6.b0.alloc _).lt (hne _ (by omega))).trans (hA6.b0.alloc _)
                have n1 : Box w3 (w.heap.size + 1) _ 25 := (hgrow.block _ (hA6.b1.alloc _).lt (hne _ (by omega))).trans (hA6.b1.alloc _)
                have n2 : Box w3 (w.heap.size + 1 + 1) #[.int .i64 1, .int .i64 x, .string s, ov] 25 := (hgrow.block _ (hA6.b2.alloc _).lt (hne _ (by omega))).trans (hA6.b2.alloc _)
                have np : Box w3 P #[.int .i64 z] 3 := (hgrow.block _ (hbp6.alloc _).lt (hne _ (by omega))).trans (hbp6.alloc _)
                have hAn : ApB n₀ P (w.heap.size + 1 + 1) l w 1 x s ts (some ⟨b, off, none⟩) c (j + 1) v2 _ (w3.setCell ⟨w.heap.size + 1 + 1, 3, none⟩ v2) := ⟨n0.other (by omega) 3 _, n1.other (by omega) 3 _, by simpa using n2.set 3 v2, hbo, hRn.set (by omega) (by omega) 3 v2⟩
                have HN := Lib.hid (And.intro hAn (And.intro (np.other (B' := w.heap.size + 1 + 1) (by omega) 3 v2) hok'))
                have f3 := n2.frozen 3
                have e3 := n2.cell 3
                have ln2 := n2.lt
                simp only [List.getElem?_toArray, List.getElem?_cons_succ, List.getElem?_cons_zero] at e3
                clear hAn hRn hown3 hgrow hwh hown hA6 hPo hok' hlen hne n0 n1 n2 np hbp6 p0 p1 p2 p3 c3
                subst hv2
                gi_wp2_with fail
                go_roundw
                case rel => exact ⟨j + 1, z, _, _, hlt, by go_num, HN.out.1, HN.out.2.1, HN.out.2.2, hzr.1, hzr.2⟩
                case measure => simp [intOf]; omega
            · have et : ts.take j = ts := List.take_of_length_le (by omega)
              have hA := HA.out.1
              have hrow := hA.row
              have hok := HA.out.2.2
              rw [et] at hrow hok
              obtain ⟨oa, oc, hov, ho1, ho2, ho3⟩ := hrow.done
              rw [List.length_map] at hov ho1
              subst hov
              have q0 := hA.b2.cell 0
              have q1 := hA.b2.cell 1
              have q2 := hA.b2.cell 2
              have q3 := hA.b2.cell 3
              have u0 := hA.b1.cell 0
              have u1 := hA.b1.cell 1
              have u2 := hA.b1.cell 2
              have u3 := hA.b1.cell 3
              have g0 := hA.b1.frozen 0
              have g1 := hA.b1.frozen 1
              have g2 := hA.b1.frozen 2
              have g3 := hA.b1.frozen 3
              have l0 := hA.b2.lt
              have l1 := hA.b1.lt
              simp only [List.getElem?_toArray, List.getElem?_cons_succ, List.getElem?_cons_zero] at q0 q1 q2 q3 u0 u1 u2 u3
              have hF2 : Hid (apR l (.node 1 x s ts) m d = (true, y)) := hR.out.trans hok
              have HX := Lib.hid (And.intro ho1 (And.intro ho2 ho3))
              clear hA hrow hok ho1 ho2 ho3 et hBr
              gi_wp2_with fail
              have hbo := HA.out.1.bo
              have zz := HA.out.1.b1.four (.int .i64 1) (.int .i64 x) (.string s) (.slice oa ts.length oc)
              have zp := (((HA.out.2.1.other (B' := w.heap.size + 1) (by omega) 0 (.int .i64 1)).other (B' := w.heap.size + 1) (by omega) 1 (.int .i64 x)).other (B' := w.heap.size + 1) (by omega) 2 (.string s)).other (B' := w.heap.size + 1) (by omega) 3 (.slice oa ts.length oc)
              have zg : w.grownBy ((((wr.setCell ⟨w.heap.size + 1, 0, none⟩ (.int .i64 1)).setCell ⟨w.heap.size + 1, 1, none⟩ (.int .i64 x)).setCell ⟨w.heap.size + 1, 2, none⟩ (.string s)).setCell ⟨w.heap.size + 1, 3, none⟩ (.slice oa ts.length oc)) (some P) := ⟨HA.out.1.row.grown.os, HA.out.1.row.grown.tape, HA.out.1.row.grown.output, by have := HA.out.1.row.grown.size; simp; omega, fun i hi hr => (heap_four (by omega) _ _ _ _).trans (HA.out.1.row.grown.block i hi hr)⟩
              have zP := IsPL.map (q := OA n₀ w.heap.size ((((wr.setCell ⟨w.heap.size + 1, 0, none⟩ (.int .i64 1)).setCell ⟨w.heap.size + 1, 1, none⟩ (.int .i64 x)).setCell ⟨w.heap.size + 1, 2, none⟩ (.string s)).setCell ⟨w.heap.size + 1, 3, none⟩ (.slice oa ts.length oc))) (B := ((((wr.setCell ⟨w.heap.size + 1, 0, none⟩ (.int .i64 1)).setCell ⟨w.heap.size + 1, 1, none⟩ (.int .i64 x)).setCell ⟨w.heap.size + 1, 2, none⟩ (.string s)).setCell ⟨w.heap.size + 1, 3, none⟩ (.slice oa ts.length oc))) (fun b hb => ⟨⟨hb.1.imp id (fun h => by omega), by simpa using hb.2⟩, heap_four (by rcases hb.1 with h | h <;> omega) _ _ _ _⟩) _ _ HX.out.2.2
              have w0 := zz.cell 0
              have w1 := zz.cell 1
              have w2 := zz.cell 2
              have w3 := zz.cell 3
              clear zz q0 q1 q2 q3 u0 u1 u2 u3 g0 g1 g2 g3
              generalize ((((wr.setCell ⟨w.heap.size + 1, 0, none⟩ (.int .i64 1)).setCell ⟨w.heap.size + 1, 1, none⟩ (.int .i64 x)).setCell ⟨w.heap.size + 1, 2, none⟩ (.string s)).setCell ⟨w.heap.size + 1, 3, none⟩ (.slice oa ts.length oc)) = FW at *
              simp at w0 w1 w2 w3
              refine bodyPost_ret (v := .tuple #[.agg #[.int .i64 1, .int .i64 x, .string s, .slice oa ts.length oc], .bool true]) (by simp [results, Tryd.results95, go_sem, w0, w1, w2, w3]) rfl ⟨_, _, _, _, _, _, by rw [hF2.out], by rw [hF2.out]; exact zp, zg, fun _ => ?_⟩
              rw [hSub.out, show ts.length = (ts.map (subT l)).length by simp]
              exact IsP.mk HOK.out.1 ⟨h21, h22⟩ HOK.out.2 (by simpa using HX.out.1) HX.out.2.1 zP
  · clear hg
    have hk' : (k == 1) = false := by simpa using hk
    have hnp : ¬(k = (1 : Int) ∧ x < l.length ∧ (l.getD x.toNat default).free = false) := fun h => hk h.1
    have hAp : Hid (apR l (.node k x s ts) m d = if m - 1 < 0 ∨ d < 1 then (false, m - 1) else apRL l ts (m - 1) (d - 1)) := by rw [Hid, apR, if_neg hnp]
    have hSub : Hid (subT l (.node k x s ts) = .node k x s (ts.map (subT l))) := by rw [Hid, subT, if_neg (by simp [putsB, hk]), subL_map]
    clear hnp
    clear hk
    have b0 : Box (((w.setCell ⟨P, 0, none⟩ (.int .i64 (m - 1))).alloc (.cells #[.int .i64 k, .int .i64 x, .string s, .slice a ts.length c] 25)).alloc (.cells #[.int .i64 0, .int .i64 0, .string ⟨#[]⟩, .slice none 0 0] 25)) w.heap.size #[.int .i64 k, .int .i64 x, .string s, .slice a ts.length c] 25 := (Box.at (by simp)).alloc _
    have b1 : Box (((w.setCell ⟨P, 0, none⟩ (.int .i64 (m - 1))).alloc (.cells #[.int .i64 k, .int .i64 x, .string s, .slice a ts.length c] 25)).alloc (.cells #[.int .i64 0, .int .i64 0, .string ⟨#[]⟩, .slice none 0 0] 25)) (w.heap.size + 1) #[.int .i64 0, .int .i64 0, .string ⟨#[]⟩, .slice none 0 0] 25 := Box.at (by simp)
    have bp : Box (((w.setCell ⟨P, 0, none⟩ (.int .i64 (m - 1))).alloc (.cells #[.int .i64 k, .int .i64 x, .string s, .slice a ts.length c] 25)).alloc (.cells #[.int .i64 0, .int .i64 0, .string ⟨#[]⟩, .slice none 0 0] 25)) P #[.int .i64 (m - 1)] 3 := Box.alloc (Box.alloc (by simpa using hb.set 0 (.int .i64 (m - 1))) _) _
    have hgz : w.grownBy (((w.setCell ⟨P, 0, none⟩ (.int .i64 (m - 1))).alloc (.cells #[.int .i64 k, .int .i64 x, .string s, .slice a ts.length c] 25)).alloc (.cells #[.int .i64 0, .int .i64 0, .string ⟨#[]⟩, .slice none 0 0] 25)) (some P) := grown_trans (grown_trans (grown_set P 0 w _) (World.grownBy_alloc _ _ _)) (World.grownBy_alloc _ _ _)
    have hsz3 : (((w.setCell ⟨P, 0, none⟩ (.int .i64 (m - 1))).alloc (.cells #[.int .i64 k, .int .i64 x, .string s, .slice a ts.length c] 25)).alloc (.cells #[.int .i64 0, .int .i64 0, .string ⟨#[]⟩, .slice none 0 0] 25)).heap.size = w.heap.size + 2 := by simp
    have o0 := hb.cell 0
    have of := hb.frozen 0
    simp only [List.getElem?_toArray, List.getElem?_cons_zero] at o0
    have q0 := b0.cell 0
    have q1 := b0.cell 1
    have q2 := b0.cell 2
    have q3 := b0.cell 3
    have u0 := b1.cell 0
    have u1 := b1.cell 1
    have u2 := b1.cell 2
    have u3 := b1.cell 3
    have y0 := bp.cell 0
    have yf := bp.frozen 0
    have g0 := b1.frozen 0
    have g1 := b1.frozen 1
    have g2 := b1.frozen 2
    have g3 := b1.frozen 3
    have l0 := b0.lt
    have l1 := b1.lt
    have lp := bp.lt
    simp only [List.getElem?_toArray, List.getElem?_cons_succ, List.getElem?_cons_zero] at q0 q1 q2 q3 u0 u1 u2 u3 y0
    have HB := Lib.hid (And.intro b0 (And.intro b1 (And.intro bp hgz)))
    clear b0 b1 bp hgz
    by_cases hc : m - 1 < 0
    · have hR : Hid (apR l (.node k x s ts) m d = (false, m - 1)) := by rw [Hid, hAp.out]; exact if_pos (by omega)
      refine (callsIn_wide (n := 9)).1 ?_
      generalize hF : Fence.wide = F
      have hd : F.depth = none := by subst hF; rfl
      have hf : ∀ f, F.fn f := fun f => by subst hF; trivial
      have hro : F.round = none := by subst hF; rfl
      refine callsIn_of_wp Tryd.func95 rfl (hf _) ?_ hro
      simp only [Tryd.ntmps95, List.size_toArray, List.length_cons, List.length_nil, Nat.reduceAdd, Nat.reduceSub, Array.replicate_succ, Array.replicate_zero, List.push_toArray, List.append_toArray, List.nil_append, List.cons_append]
      gi_wp2_with fail
      refine bodyPost_ret (v := .tuple #[.agg #[.int .i64 0, .int .i64 0, .string ⟨#[]⟩, .slice none 0 0], .bool false]) (by simp [results, Tryd.results95, go_sem]) rfl ⟨_, _, _, _, _, _, by rw [hR.out], by rw [hR.out]; exact HB.out.2.2.1, HB.out.2.2.2, fun h => by rw [hR.out] at h; cases h⟩
    · have hc1 : 1 ≤ m := by omega
      clear hc
      by_cases hcd : d < 1
      · have hR : Hid (apR l (.node k x s ts) m d = (false, m - 1)) := by rw [Hid, hAp.out]; exact if_pos (by omega)
        refine (callsIn_wide (n := 9)).1 ?_
        generalize hF : Fence.wide = F
        have hd : F.depth = none := by subst hF; rfl
        have hf : ∀ f, F.fn f := fun f => by subst hF; trivial
        have hro : F.round = none := by subst hF; rfl
        refine callsIn_of_wp Tryd.func95 rfl (hf _) ?_ hro
        simp only [Tryd.ntmps95, List.size_toArray, List.length_cons, List.length_nil, Nat.reduceAdd, Nat.reduceSub, Array.replicate_succ, Array.replicate_zero, List.push_toArray, List.append_toArray, List.nil_append, List.cons_append]
        gi_wp2_with fail
        refine bodyPost_ret (v := .tuple #[.agg #[.int .i64 0, .int .i64 0, .string ⟨#[]⟩, .slice none 0 0], .bool false]) (by simp [results, Tryd.results95, go_sem]) rfl ⟨_, _, _, _, _, _, by rw [hR.out], by rw [hR.out]; exact HB.out.2.2.1, HB.out.2.2.2, fun h => by rw [hR.out] at h; cases h⟩
      · have hd3 : 1 ≤ d := by omega
        clear hcd
        have hR : Hid (apR l (.node k x s ts) m d = apRL l ts (m - 1) (d - 1)) := by rw [Hid, hAp.out]; exact if_neg (by omega)
        refine (callsIn_wide (n := 9)).1 ?_
        generalize hF : Fence.wide = F
        have hd : F.depth = none := by subst hF; rfl
        have hf : ∀ f, F.fn f := fun f => by subst hF; trivial
        have hro : F.round = none := by subst hF; rfl
        refine callsIn_of_wp Tryd.func95 rfl (hf _) ?_ hro
        simp only [Tryd.ntmps95, List.size_toArray, List.length_cons, List.length_nil, Nat.reduceAdd, Nat.reduceSub, Array.replicate_succ, Array.replicate_zero, List.push_toArray, List.append_toArray, List.nil_append, List.cons_append]
        gi_wp2_with fail
        have hS0 : ApB n₀ P (w.heap.size + 1 + 1) l w k x s ts a c 0 (.slice none 0 0) [] ((((w.setCell ⟨P, 0, none⟩ (.int .i64 (m - 1))).alloc (.cells #[.int .i64 k, .int .i64 x, .string s, .slice a ts.length c] 25)).alloc (.cells #[.int .i64 0, .int .i64 0, .string ⟨#[]⟩, .slice none 0 0] 25)).alloc (.cells #[.int .i64 k, .int .i64 x, .string s, .slice none 0 0] 25)) := ⟨HB.out.1.alloc _, HB.out.2.1.alloc _, Box.at (by simp), by omega, RowG.nil (grown_trans HB.out.2.2.2 (World.grownBy_alloc _ _ _)) hn (fun p e => by cases e; exact ⟨hP, hPw⟩) (by omega) (by simp)⟩
        have hbp0 := HB.out.2.2.1.alloc (.cells #[.int .i64 k, .int .i64 x, .string s, .slice none 0 0] 25)
        clear q0 q1 q2 q3 u0 u1 u2 u3 y0 yf g0 g1 g2 g3 o0 of
        generalize ((((w.setCell ⟨P, 0, none⟩ (.int .i64 (m - 1))).alloc (.cells #[.int .i64 k, .int .i64 x, .string s, .slice a ts.length c] 25)).alloc (.cells #[.int .i64 0, .int .i64 0, .string ⟨#[]⟩, .slice none 0 0] 25)).alloc (.cells #[.int .i64 k, .int .i64 x, .string s, .slice none 0 0] 25)) = WS at *
        obtain ⟨i0, hi, hz0, hz1, hz2⟩ := info_parts infoTerm
        gi_loopw [13] (fun iv wr => ∃ (j : Nat) (y : Int) (ov : Value) (xs : List Value), j ≤ ts.length ∧ iv = .int .i64 j ∧ ApB n₀ P (w.heap.size + 1 + 1) l w k x s ts a c j ov xs wr ∧ Box wr P #[.int .i64 y] 3 ∧ apRL l (ts.take j) (m - 1) (d - 1) = (true, y) ∧ 0 ≤ y ∧ y ≤ 4000) (fun iv _ => ts.length - (intOf iv).toNat)
        case atStart => exact ⟨0, m - 1, _, _, Nat.zero_le _, rfl, hS0, hbp0, by simp [apRL], by omega, by omega⟩
        case round =>
          clear hS0 hbp0
          obtain ⟨j, y, ov, xs, hj, rfl, hS, hbp, hok, hy0, hy1⟩ := hrel
          have HA := Lib.hid (And.intro hS (And.intro hbp hok))
          have hBr := hS.row.below
          have c3 := hS.b0.cell 3
          have lb0 := hS.b0.lt
          have hwn : n₀ ≤ wr.heap.size := by have := hS.row.grown.size; omega
          simp only [List.getElem?_toArray, List.getElem?_cons_succ, List.getElem?_cons_zero] at c3
          clear hS hbp hok
          by_cases hlt : j < ts.length
          · obtain ⟨b, off, rfl, hbb⟩ := HTS.out.addr (by omega)
            obtain ⟨tk, tn, tss, tl, ta, tc, te, d0, d1, d2, d3, ht⟩ := HTS.out.node' hbb hBr j hlt
            have hbw : b < wr.heap.size := by omega
            have hgt : (ts[j]).good = true := by
              have h := HG.out
              simp only [Tr.good, Bool.and_eq_true] at h
              exact goodL_mem h.2 (List.getElem_mem hlt)
            have hcall := HI.out ts[j] (List.getElem_mem hlt) _ y (d - 1) wr hgt (ht.below hBr) hwn (HLL.out.below hBr) HA.out.2.1 hy0 hy1 (by omega) (by omega) (by have := size_mem (List.getElem_mem hlt); omega)
            have hap := apR_ok hl ts[j] y (d - 1) hgt hy0
            obtain ⟨rz, hrz⟩ : ∃ rz, apR l ts[j] y (d - 1) = rz := ⟨_, rfl⟩
            rw [hrz] at hcall hap
            obtain ⟨r, z⟩ := rz
            have HC := Lib.hid hcall
            have HRZ := Lib.hid (And.intro hrz hap)
            clear te ht hcall hBr hrz hap hgt
            gi_wp2_with fail
            refine CallsIn.mono (callsIn_of_calls hF HC.out) ?_
            rintro e W5 ⟨yk, yx, ys, ya, ym, yc, rfl, hbp5, hgr, hP5⟩
            dsimp only at hbp5 hP5 ⊢
            have hA5 := HA.out.1.up hgr
            have hsz5 := hgr.size
            clear HC d0 d1 d2 d3 c3
            have hA6 := hA5.up (World.grownBy_alloc W5 (.cells #[.int .i64 yk, .int .i64 yx, .string ys, .slice ya ym yc] 25) (some P))
            have hbp6 := hbp5.alloc (.cells #[.int .i64 yk, .int .i64 yx, .string ys, .slice ya ym yc] 25)
            have y0 : Box (W5.alloc (.cells #[.int .i64 yk, .int .i64 yx, .string ys, .slice ya ym yc] 25)) W5.heap.size #[.int .i64 yk, .int .i64 yx, .string ys, .slice ya ym yc] 25 := Box.at rfl
            cases r with
            | false =>
              have hF2 : Hid (apR l (.node k x s ts) m d = (false, z)) := hR.out.trans (apRL_false ts _ _ z (j + 1) (by rw [apRL_take ts _ _ y j hlt HA.out.2.2, HRZ.out.1]; rfl))
              clear hP5 y0 hA5
              have u0 := hA6.b1.cell 0
              have u1 := hA6.b1.cell 1
              have u2 := hA6.b1.cell 2
              have u3 := hA6.b1.cell 3
              have g0 := hA6.b1.frozen 0
              have g1 := hA6.b1.frozen 1
              have g2 := hA6.b1.frozen 2
              have g3 := hA6.b1.frozen 3
              have l1 := hA6.b1.lt
              simp only [List.getElem?_toArray, List.getElem?_cons_succ, List.getElem?_cons_zero] at u0 u1 u2 u3
              have HA6 := Lib.hid (And.intro hA6 hbp6)
              clear hA6 hbp6 hbp5
              gi_wp2_with fail
              have zz := HA6.out.1.b1.four (.int .i64 0) (.int .i64 0) (.string ⟨#[]⟩) (.slice none 0 0)
              have zp := (((HA6.out.2.other (B' := w.heap.size + 1) (by omega) 0 (.int .i64 0)).other (B' := w.heap.size + 1) (by omega) 1 (.int .i64 0)).other (B' := w.heap.size + 1) (by omega) 2 (.string ⟨#[]⟩)).other (B' := w.heap.size + 1) (by omega) 3 (.slice none 0 0)
              have zg : w.grownBy (((((W5.alloc (.cells #[.int .i64 yk, .int .i64 yx, .string ys, .slice ya ym yc] 25)).setCell ⟨w.heap.size + 1, 0, none⟩ (.int .i64 0)).setCell ⟨w.heap.size + 1, 1, none⟩ (.int .i64 0)).setCell ⟨w.heap.size + 1, 2, none⟩ (.string ⟨#[]⟩)).setCell ⟨w.heap.size + 1, 3, none⟩ (.slice none 0 0)) (some P) := ⟨HA6.out.1.row.grown.os, HA6.out.1.row.grown.tape, HA6.out.1.row.grown.output, by have := HA6.out.1.row.grown.size; simp at this ⊢; omega, fun i hi hr => (heap_four (by omega) _ _ _ _).trans (HA6.out.1.row.grown.block i hi hr)⟩
              have w0 := zz.cell 0
              have w1 := zz.cell 1
              have w2 := zz.cell 2
              have w3 := zz.cell 3
              clear zz u0 u1 u2 u3 g0 g1 g2 g3
              generalize (((((W5.alloc (.cells #[.int .i64 yk, .int .i64 yx, .string ys, .slice ya ym yc] 25)).setCell ⟨w.heap.size + 1, 0, none⟩ (.int .i64 0)).setCell ⟨w.heap.size + 1, 1, none⟩ (.int .i64 0)).setCell ⟨w.heap.size + 1, 2, none⟩ (.string ⟨#[]⟩)).setCell ⟨w.heap.size + 1, 3, none⟩ (.slice none 0 0)) = FW at *
              simp at w0 w1 w2 w3
              refine bodyPost_ret (v := .tuple #[.agg #[.int .i64 0, .int .i64 0, .string ⟨#[]⟩, .slice none 0 0], .bool false]) (by simp [results, Tryd.results95, go_sem, w0, w1, w2, w3]) rfl ⟨_, _, _, _, _, _, by rw [hF2.out], by rw [hF2.out]; exact zp, zg, fun h => by rw [hF2.out] at h; cases h⟩
            | true =>
              have hz := HRZ.out.2.1.1 rfl
              have hz2' := HRZ.out.2.2 rfl
              have hzr : 0 ≤ z ∧ z ≤ 4000 := by omega
              have hPo : IsP (OB n₀ (w.heap.size + 1 + 1 + 1) ov (W5.alloc (.cells #[.int .i64 yk, .int .i64 yx, .string ys, .slice ya ym yc] 25))) (W5.alloc (.cells #[.int .i64 yk, .int .i64 yx, .string ys, .slice ya ym yc] 25)) (subT l ts[j]) (.agg #[.int .i64 yk, .int .i64 yx, .string ys, .slice ya ym yc]) := OB.from HA.out.1.row (Nat.le_refl _) (IsP.map (fun b hb => ⟨⟨hb.1, by have := hb.2; simp; omega⟩, Below.heap_alloc W5 _ b hb.2⟩) _ _ (hP5 rfl))
              have hok' : apRL l (ts.take (j + 1)) (m - 1) (d - 1) = (true, z) := by rw [apRL_take ts _ _ y j hlt HA.out.2.2, HRZ.out.1]; rfl
              have p0 := y0.cell 0
              have p1 := y0.cell 1
              have p2 := y0.cell 2
              have p3 := y0.cell 3
              have c3 := hA6.b2.cell 3
              have l2 := hA6.b2.lt
              simp only [List.getElem?_toArray, List.getElem?_cons_succ, List.getElem?_cons_zero] at p0 p1 p2 p3 c3
              have hlen : ((ts.take j).map (subT l)).length = j := by simp; omega
              have hown := hA6.row.own
              rw [hlen] at hown
              have hlo := hA6.row.hlo
              have HX := Lib.hid (And.intro hA6 (And.intro hPo (And.intro hok' (And.intro hlen hbp6))))
              clear hA5 hA6 hPo hok' hlen hP5 y0 hbp5 hbp6 hz hz2'
              gi_wp2_with (gi_at_builtin; refine wpListIn_append_where _ rfl _ _ 22 rfl (w.heap.size + 1 + 1 + 1) 25 i0 _ 4 56 Tryd.underlying22 hi hz0 hz1 hz2 rfl (by decide) _ _ _ rfl (World.ownsRow.alloc hown _) ⟨W5.heap.size + 1, 0, none⟩ 1 1 [.int .i64 yk, .int .i64 yx, .string ys, .slice ya ym yc] rfl rfl (cells_of_box (Box.at (by simp))) (one_cells _ _ _ _ _ _) (by unfold maxLen; omega) (by omega) (by simp; simp at hlo; omega) ?_)
              intro v2 w3 hown3 hgrow hwh
              obtain ⟨hA6, hPo, hok', hlen, hbp6⟩ := HX.out
              have hRn := hA6.row.push hPo (by rw [hlen]; exact hown3) hgrow (fun b h => (hwh b h).imp id (fun h => by first | omega | (simp; omega) | (simp at h ⊢; omega)))
              rw [← List.map_singleton, ← List.map_append, ← List.take_succ_eq_append_getElem hlt] at hRn
              obtain ⟨g2', cap2, hv2⟩ := ownsRow_succ hown3
              have hbo := hA6.bo
              have hne : ∀ B, B < w.heap.size + 1 + 1 + 1 → some B ≠ ov.ownBlock := fun B hB e => by have := (hA6.row.block e.symm).1; omega
              have n0 : Box w3 w.heap.size _ 25 := (hgrow.block _ (hA6.b0.alloc _).lt (hne _ (by omega))).trans (hA6.b0.alloc _)
              have n1 : Box w3 (w.heap.size + 1) _ 25 := (hgrow.block _ (hA6.b1.alloc _).lt (hne _ (by omega))).trans (hA6.b1.alloc _)
              have n2 : Box w3 (w.heap.size + 1 + 1) #[.int .i64 k, .int .i64 x, .string s, ov] 25 := (hgrow.block _ (hA6.b2.alloc _).lt (hne _ (by omega))).trans (hA6.b2.alloc _)
              have np : Box w3 P #[.int .i64 z] 3 := (hgrow.block _ (hbp6.alloc _).lt (hne _ (by omega))).trans (hbp6.alloc _)
              have hAn : ApB n₀ P (w.heap.size + 1 + 1) l w k x s ts (some ⟨b, off, none⟩) c (j + 1) v2 _ (w3.setCell ⟨w.heap.size + 1 + 1, 3, none⟩ v2) := ⟨n0.other (by omega) 3 _, n1.other (by omega) 3 _, by simpa using n2.set 3 v2, hbo, hRn.set (by omega) (by omega) 3 v2⟩
              have HN := Lib.hid (And.intro hAn (And.intro (np.other (B' := w.heap.size + 1 + 1) (by omega) 3 v2) hok'))
              have f3 := n2.frozen 3
              have e3 := n2.cell 3
              have ln2 := n2.lt
              simp only [List.getElem?_toArray, List.getElem?_cons_succ, List.getElem?_cons_zero] at e3
              clear hAn hRn hown3 hgrow hwh hown hA6 hPo hok' hlen hne n0 n1 n2 np hbp6 p0 p1 p2 p3 c3
              subst hv2
              gi_wp2_with fail
              go_roundw
              case rel => exact ⟨j + 1, z, _, _, hlt, by go_num, HN.out.1, HN.out.2.1, HN.out.2.2, hzr.1, hzr.2⟩
              case measure => simp [intOf]; omega
          · have et : ts.take j = ts := List.take_of_length_le (by omega)
            have hA := HA.out.1
            have hrow := hA.row
            have hok := HA.out.2.2
            rw [et] at hrow hok
            obtain ⟨oa, oc, hov, ho1, ho2, ho3⟩ := hrow.done
            rw [List.length_map] at hov ho1
            subst hov
            have q0 := hA.b2.cell 0
            have q1 := hA.b2.cell 1
            have q2 := hA.b2.cell 2
            have q3 := hA.b2.cell 3
            have u0 := hA.b1.cell 0
            have u1 := hA.b1.cell 1
            have u2 := hA.b1.cell 2
            have u3 := hA.b1.cell 3
            have g0 := hA.b1.frozen 0
            have g1 := hA.b1.frozen 1
            have g2 := hA.b1.frozen 2
            have g3 := hA.b1.frozen 3
            have l0 := hA.b2.lt
            have l1 := hA.b1.lt
            simp only [List.getElem?_toArray, List.getElem?_cons_succ, List.getElem?_cons_zero] at q0 q1 q2 q3 u0 u1 u2 u3
            have hF2 : Hid (apR l (.node k x s ts) m d = (true, y)) := hR.out.trans hok
            have HX := Lib.hid (And.intro ho1 (And.intro ho2 ho3))
            clear hA hrow hok ho1 ho2 ho3 et hBr
            gi_wp2_with fail
            have hbo := HA.out.1.bo
            have zz := HA.out.1.b1.four (.int .i64 k) (.int .i64 x) (.string s) (.slice oa ts.length oc)
            have zp := (((HA.out.2.1.other (B' := w.heap.size + 1) (by omega) 0 (.int .i64 k)).other (B' := w.heap.size + 1) (by omega) 1 (.int .i64 x)).other (B' := w.heap.size + 1) (by omega) 2 (.string s)).other (B' := w.heap.size + 1) (by omega) 3 (.slice oa ts.length oc)
            have zg : w.grownBy ((((wr.setCell ⟨w.heap.size + 1, 0, none⟩ (.int .i64 k)).setCell ⟨w.heap.size + 1, 1, none⟩ (.int .i64 x)).setCell ⟨w.heap.size + 1, 2, none⟩ (.string s)).setCell ⟨w.heap.size + 1, 3, none⟩ (.slice oa ts.length oc)) (some P) := ⟨HA.out.1.row.grown.os, HA.out.1.row.grown.tape, HA.out.1.row.grown.output, by have := HA.out.1.row.grown.size; simp; omega, fun i hi hr => (heap_four (by omega) _ _ _ _).trans (HA.out.1.row.grown.block i hi hr)⟩
            have zP := IsPL.map (q := OA n₀ w.heap.size ((((wr.setCell ⟨w.heap.size + 1, 0, none⟩ (.int .i64 k)).setCell ⟨w.heap.size + 1, 1, none⟩ (.int .i64 x)).setCell ⟨w.heap.size + 1, 2, none⟩ (.string s)).setCell ⟨w.heap.size + 1, 3, none⟩ (.slice oa ts.length oc))) (B := ((((wr.setCell ⟨w.heap.size + 1, 0, none⟩ (.int .i64 k)).setCell ⟨w.heap.size + 1, 1, none⟩ (.int .i64 x)).setCell ⟨w.heap.size + 1, 2, none⟩ (.string s)).setCell ⟨w.heap.size + 1, 3, none⟩ (.slice oa ts.length oc))) (fun b hb => ⟨⟨hb.1.imp id (fun h => by omega), by simpa using hb.2⟩, heap_four (by rcases hb.1 with h | h <;> omega) _ _ _ _⟩) _ _ HX.out.2.2
            have w0 := zz.cell 0
            have w1 := zz.cell 1
            have w2 := zz.cell 2
            have w3 := zz.cell 3
            clear zz q0 q1 q2 q3 u0 u1 u2 u3 g0 g1 g2 g3
            generalize ((((wr.setCell ⟨w.heap.size + 1, 0, none⟩ (.int .i64 k)).setCell ⟨w.heap.size + 1, 1, none⟩ (.int .i64 x)).setCell ⟨w.heap.size + 1, 2, none⟩ (.string s)).setCell ⟨w.heap.size + 1, 3, none⟩ (.slice oa ts.length oc)) = FW at *
            simp at w0 w1 w2 w3
            refine bodyPost_ret (v := .tuple #[.agg #[.int .i64 k, .int .i64 x, .string s, .slice oa ts.length oc], .bool true]) (by simp [results, Tryd.results95, go_sem, w0, w1, w2, w3]) rfl ⟨_, _, _, _, _, _, by rw [hF2.out], by rw [hF2.out]; exact zp, zg, fun _ => ?_⟩
            rw [hSub.out, show ts.length = (ts.map (subT l)).length by simp]
            exact IsP.mk HOK.out.1 ⟨h21, h22⟩ HOK.out.2 (by simpa using HX.out.1) HX.out.2.1 zP
end Go.Proofs.YtckoecmdaefoiaaDoor
