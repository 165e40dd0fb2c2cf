/- The parser's list. -/
import Derived.Test.YthfciekhmbfmfaaGreatDoorParD
namespace Go.Proofs.YthfciekhmbfmfaaGreatDoor
open Go.RowKit Go Go.Maps

attribute [local go_sem] Oper.semAt_some monoUpon Yld.says

theorem IsPL.atP {p : Nat → Prop} {W : World} {l : List Tr} {b off : Nat} (h : IsPL p W l (some ⟨b, off, none⟩)) : ∀ i (hi : i < l.length), ∃ v0 v1 v2 v3, p b ∧ W.cell? ⟨b, off + i * 4, none⟩ = some v0 ∧ W.cell? ⟨b, off + i * 4 + 1, none⟩ = some v1 ∧ W.cell? ⟨b, off + i * 4 + 2, none⟩ = some v2 ∧ W.cell? ⟨b, off + i * 4 + 3, none⟩ = some v3 ∧ IsP p W l[i] (.agg #[v0, v1, v2, v3]) := by
  induction l generalizing off with
  | nil => intro i hi; simp at hi
  | cons t ts ih =>
    intro i hi
    unfold IsPL at h
    obtain ⟨b', off', v0, v1, v2, v3, e, hp, c0, c1, c2, c3, ht, hl⟩ := h
    cases e
    cases i with
    | zero => exact ⟨v0, v1, v2, v3, hp, by simpa using c0, by simpa using c1, by simpa using c2, by simpa using c3, ht⟩
    | succ j =>
      obtain ⟨u0, u1, u2, u3, hp2, d0, d1, d2, d3, hu⟩ := ih hl j (by simpa using hi)
      have e0 : off + (j + 1) * 4 = off + 4 + j * 4 := by omega
      exact ⟨u0, u1, u2, u3, hp2, by rw [e0]; exact d0, by rw [e0]; exact d1, by rw [e0]; exact d2, by rw [e0]; exact d3, hu⟩
/-- The i-th term of a list that was read. -/
theorem lval.at {lo : Nat} {l : List Tr} {a : Option Addr} {m c : Nat} {W : World} (h : lval lo l (.slice a m c) W) {i : Nat} (hi : i < l.length) : ∃ b off k n s x y z, a = some ⟨b, off, none⟩ ∧ m = l.length ∧ b < W.heap.size ∧ W.cell? ⟨b, off + i * 4, none⟩ = some (.int .i64 k) ∧ W.cell? ⟨b, off + i * 4 + 1, none⟩ = some (.int .i64 n) ∧ W.cell? ⟨b, off + i * 4 + 2, none⟩ = some (.string s) ∧ W.cell? ⟨b, off + i * 4 + 3, none⟩ = some (.slice x y z) ∧ tval lo l[i] (.agg #[.int .i64 k, .int .i64 n, .string s, .slice x y z]) W := by
  obtain ⟨a', c', e, h1, h2, h3⟩ := h
  cases e
  obtain ⟨t, ts, rfl⟩ : ∃ t ts, l = t :: ts := by
    rcases l with _ | ⟨t, ts⟩
    · simp at hi
    · exact ⟨t, ts, rfl⟩
  have h4 := h3
  unfold IsPL at h4
  obtain ⟨b, off, _, _, _, _, rfl, _⟩ := h4
  obtain ⟨v0, v1, v2, v3, hp, c0, c1, c2, c3, ht⟩ := IsPL.atP h3 i hi
  obtain ⟨k, n, s, x, y, z, e⟩ := IsP.formP ht
  cases e
  exact ⟨b, off, k, n, s, x, y, z, rfl, rfl, hp.lt, c0, c1, c2, c3, ht⟩
/-- A row of two terms, laid just now. -/
theorem lval.two {lo : Nat} {W : World} {x y : Tr} {x0 x1 x2 x3 y0 y1 y2 y3 : Value} (hx : tval lo x (.agg #[x0, x1, x2, x3]) W) (hy : tval lo y (.agg #[y0, y1, y2, y3]) W) (hlo : lo ≤ W.heap.size) : lval lo [x, y] (.slice (some ⟨W.heap.size, 0, none⟩) 2 2) (W.alloc (.cells #[x0, x1, x2, x3, y0, y1, y2, y3] 31)) := by
  have hb : Box (W.alloc (.cells #[x0, x1, x2, x3, y0, y1, y2, y3] 31)) W.heap.size #[x0, x1, x2, x3, y0, y1, y2, y3] 31 := World.alloc_heap_new _ _
  have hK := TmK.of_below (below_a1 (Nat.le_refl W.heap.size) (.cells #[x0, x1, x2, x3, y0, y1, y2, y3] 31))
  have hp : TN lo (W.alloc (.cells #[x0, x1, x2, x3, y0, y1, y2, y3] 31)) W.heap.size := ⟨hlo, _, _, hb⟩
  refine ⟨_, 2, rfl, Nat.le_refl _, by unfold maxLen; omega, ?_⟩
  unfold IsPL
  refine ⟨W.heap.size, 0, x0, x1, x2, x3, rfl, hp, hb.cell 0, hb.cell 1, hb.cell 2, hb.cell 3, TN.up hx hK (Nat.le_refl _), ?_⟩
  unfold IsPL
  refine ⟨W.heap.size, 4, y0, y1, y2, y3, rfl, hp, hb.cell 4, hb.cell 5, hb.cell 6, hb.cell 7, TN.up hy hK (Nat.le_refl _), ?_⟩
  exact IsPL.nil
theorem lval.one {lo : Nat} {W : World} {x : Tr} {x0 x1 x2 x3 : Value} (hx : tval lo x (.agg #[x0, x1, x2, x3]) W) (hlo : lo ≤ W.heap.size) : lval lo [x] (.slice (some ⟨W.heap.size, 0, none⟩) 1 1) (W.alloc (.cells #[x0, x1, x2, x3] 31)) := (PRow.one hx hlo).done
theorem lval.steady (lo lo' : Nat) (l : List Tr) : (Yld.any (fun u w => lo' ≤ w.heap.size ∧ lval lo l u w)).stable := fun _ _ _ he h => ⟨Nat.le_trans h.1 (Below.size he), h.2.up (TmK.of_below he) (Nat.le_refl _)⟩
theorem tval.steady (lo : Nat) (t : Tr) : (Yld.any (fun u w => tval lo t u w)).stable := fun _ _ _ he h => h.up (TmK.of_below he) (Nat.le_refl _)
section
variable {w : World} {B b1 b2 V tot : Nat} {xs : List Lx} {pv nv : Value} {st : PS} {W : World} {n : Nat}
abbrev consT (l : List Tr) (t : Tr) : Tr := l.foldr (fun x y => fn [46] [x, y]) t
set_option maxRecDepth 100000 in
set_option maxHeartbeats 8000000 in
theorem list_any (hT : TermOk w B b1 b2 V tot xs pv n) (h : PaSt w B b1 b2 V tot xs pv st nv W) (hx : LxOk tot xs) (hn : xs.length < n + st.i) :
    Calls Tryz.prog 212 #[.pointer (some ⟨B, 0, none⟩)] W (PaQ w B b1 b2 V tot xs pv nv (st.i + 1) W (tval W.heap.size) (listF tot xs (termN tot xs n) st)) := by
  have HT := Lib.hid hT
  have HX := Lib.hid hx
  have HN := Lib.hid hn
  have hl8 := hx.len
  obtain ⟨W0, hW0⟩ : ∃ W0, (W.alloc (.cells #[.int .i64 0, .int .i64 0, .string ⟨#[]⟩, .slice none 0 0] 31)).alloc (.cells #[.int .i64 3, .int .i64 0, .string ⟨#[91, 93]⟩, .slice none 0 0] 31) = W0 := ⟨_, rfl⟩
  have hR0 : Box W0 W.heap.size #[.int .i64 0, .int .i64 0, .string ⟨#[]⟩, .slice none 0 0] 31 := by rw [← hW0]; exact (Box.at rfl).alloc _
  have hR1 : Box W0 (W.heap.size + 1) #[.int .i64 3, .int .i64 0, .string ⟨#[91, 93]⟩, .slice none 0 0] 31 := by rw [← hW0]; exact Box.at (by simp)
  have hA : Below W.heap.size W W0 := by rw [← hW0]; exact below_a2 (Nat.le_refl _) _ _
  have h0 := h.up hA
  have hT0 := PaTo.up (B := B) (V := V) (nv := nv) hA
  have hwW := h.below.size
  have HO := Lib.hid (skip_any h0 hx [93])
  have H0 := Lib.hid (And.intro h0 (And.intro hT0 (And.intro hR0 hR1)))
  have HW0 := Lib.hid hW0
  clear hW0
  refine (callsIn_wide (n := 9)).1 ?_
  generalize hF : Fence.wide = F
  have hd : F.depth = none := by subst hF; rfl
  have hf : ∀ f, F.fn f := fun f => by subst hF; trivial
  have hro : F.round = none := by subst hF; rfl
  cases hb : isSg (tokAt xs st.i) [93] with
  | true =>
    have HP : Hid (listF tot xs (termN tot xs n) st = .ok (atm [91, 93], ⟨st.i + 1, st.ns⟩) ∧ skp xs [93] st = ⟨st.i + 1, st.ns⟩) := ⟨by rw [listF, hb]; rfl, by rw [skp, hb]; rfl⟩
    have HBB := Lib.hid hb
    clear hT h hb h0 hT0 hR0 hR1 hA
    refine callsIn_of_wp Tryz.func212 rfl (hf _) ?_ hro
    simp only [Tryz.ntmps212, List.size_toArray, List.length_cons, List.length_nil, Nat.reduceAdd, Nat.reduceSub, Array.replicate_succ, Array.replicate_zero, List.push_toArray, List.append_toArray, List.nil_append, List.cons_append]
    gi_wp2_with fail
    rw [HW0.out]
    refine CallsIn.mono (callsIn_of_calls hF (HO.out)) ?_
    rintro e w1 ⟨rfl, h1, hT1⟩
    rw [HBB.out]
    rw [HP.out.2] at h1
    have hR2 := PaTo.box H0.out.1 hT1 H0.out.2.2.1 (by decide) (by decide)
    have hR3 := PaTo.box H0.out.1 hT1 H0.out.2.2.2 (by decide) (by decide)
    have H1 := Lib.hid (And.intro h1 (And.intro (H0.out.2.1.trans hT1) hR2))
    have q0 := hR2.cell 0
    have q1 := hR2.cell 1
    have q2 := hR2.cell 2
    have q3 := hR2.cell 3
    have f4 := hR2.frozen 0
    have f5 := hR2.frozen 1
    have f6 := hR2.frozen 2
    have f7 := hR2.frozen 3
    have l1 := hR2.lt
    have p0 := hR3.cell 0
    have p1 := hR3.cell 1
    have p2 := hR3.cell 2
    have p3 := hR3.cell 3
    have l3 := hR3.lt
    simp only [List.getElem?_toArray, List.getElem?_cons_succ, List.getElem?_cons_zero] at q0 q1 q2 q3 p0 p1 p2 p3
    clear h1 hT1 hR2 hR3
    gi_wp2_with fail
    have hf1 := H1.out.1.put H1.out.2.2 (by omega) (.int .i64 3) (.int .i64 0) (.string ⟨#[91, 93]⟩) (.slice none 0 0)
    have hf2 := H1.out.2.1.put (Nat.le_refl _) (.int .i64 3) (.int .i64 0) (.string ⟨#[91, 93]⟩) (.slice none 0 0)
    have hf3 := H1.out.2.2.set4 (.int .i64 3) (.int .i64 0) (.string ⟨#[91, 93]⟩) (.slice none 0 0)
    unfold set4 at hf1 hf2 hf3
    generalize (((w1.setCell ⟨W.heap.size, 0, none⟩ (.int .i64 3)).setCell ⟨W.heap.size, 1, none⟩ (.int .i64 0)).setCell ⟨W.heap.size, 2, none⟩ (.string ⟨#[91, 93]⟩)).setCell ⟨W.heap.size, 3, none⟩ (.slice none 0 0) = FW at *
    have y0 := hf3.cell 0
    have y1 := hf3.cell 1
    have y2 := hf3.cell 2
    have y3 := hf3.cell 3
    simp only [List.getElem?_toArray, List.getElem?_cons_succ, List.getElem?_cons_zero] at y0 y1 y2 y3
    refine bodyPost_ret (v := .agg #[.int .i64 3, .int .i64 0, .string ⟨#[91, 93]⟩, .slice none 0 0]) (by simp [results, Tryz.results212, go_sem, y0, y1, y2, y3]) rfl ?_
    rw [HP.out.1]
    exact ⟨_, nv, rfl, tval.leaf (by unfold okI; omega) (by unfold okI; omega) (by decide) (by unfold maxLen; omega), hf1, hf2, Nat.le_refl _⟩
  | false =>
    have HP : Hid (listF tot xs (termN tot xs n) st = (match partsF xs (termN tot xs n) st with
      | .error e => .error e
      | .ok (l, st1) =>
        if isSg (tokAt xs st1.i) [124] then
          match termN tot xs n 999 ⟨st1.i + 1, st1.ns⟩ with
          | .error e => .error e
          | .ok (t, st2) => match signF tot xs [93] st2 with | .error e => .error e | .ok st3 => .ok (consT l t, st3)
        else match signF tot xs [93] st1 with | .error e => .error e | .ok st3 => .ok (consT l (atm [91, 93]), st3)) ∧ skp xs [93] st = st) := ⟨by rw [listF, hb]; rfl, by rw [skp, hb]; rfl⟩
    have HBB := Lib.hid hb
    clear hT h hb h0 hT0 hR0 hR1 hA
    refine callsIn_of_wp Tryz.func212 rfl (hf _) ?_ hro
    simp only [Tryz.ntmps212, List.size_toArray, List.length_cons, List.length_nil, Nat.reduceAdd, Nat.reduceSub, Array.replicate_succ, Array.replicate_zero, List.push_toArray, List.append_toArray, List.nil_append, List.cons_append]
    gi_wp2_with fail
    rw [HW0.out]
    refine CallsIn.mono (callsIn_of_calls hF (HO.out)) ?_
    rintro e w1 ⟨rfl, h1, hT1⟩
    rw [HBB.out]
    rw [HP.out.2] at h1
    have hR2 := PaTo.box H0.out.1 hT1 H0.out.2.2.1 (by decide) (by decide)
    have hR3 := PaTo.box H0.out.1 hT1 H0.out.2.2.2 (by decide) (by decide)
    have H1 := Lib.hid (And.intro h1 (And.intro (H0.out.2.1.trans hT1) (And.intro hR2 hR3)))
    have hw1s : W.heap.size + 2 ≤ w1.heap.size := by have := hR3.lt; omega
    clear h1 hT1 hR2 hR3
    gi_wp2_with fail
    refine CallsIn.mono (callsIn_of_calls hF (parts_any HT.out H1.out.1 HX.out HN.out)) ?_
    rintro e w3 hQ3
    cases hr : partsF xs (termN tot xs n) st with
    | error p =>
      rw [hr] at hQ3
      obtain ⟨rfl, hb⟩ := hQ3
      refine And.intro rfl ?_
      rw [HP.out.1, hr]
      exact ⟨rfl, hb⟩
    | ok x =>
      obtain ⟨l, st3⟩ := x
      rw [hr] at hQ3
      obtain ⟨v3, nv3, rfl, ⟨hl, hl8k⟩, h3, hT3, hi4⟩ := hQ3
      obtain ⟨la, lc, rfl, hlc, hlm, -⟩ := id hl
      have hR4 := PaTo.box H1.out.1 hT3 H1.out.2.2.1 (by decide) (by decide)
      have hR5 := PaTo.box H1.out.1 hT3 H1.out.2.2.2 (by decide) (by decide)
      have hw13 := hT3.size
      have HK := Lib.hid (skip_any h3 HX.out [124])
      have H3 := Lib.hid (And.intro h3 (And.intro (H1.out.2.1.trans hT3) (And.intro hR4 (And.intro hR5 (hl.up (TmK.refl _) hw1s)))))
      have HR := Lib.hid hr
      have hi4' : st.i + 1 ≤ st3.i := hi4
      have hst3 := h3.hi
      clear h3 hT3 hR4 hR5 hl hr hi4
      cases hb2 : isSg (tokAt xs st3.i) [124] with
      | false =>
        have HSK : Hid (skp xs [124] st3 = st3) := by rw [Hid, skp, hb2]; rfl
        have HPF : Hid (listF tot xs (termN tot xs n) st = match signF tot xs [93] st3 with | .error e => .error e | .ok st5 => .ok (consT l (atm [91, 93]), st5)) := by rw [Hid, HP.out.1, HR.out]; simp only [hb2]; rfl
        have HBB2 := Lib.hid hb2
        clear hb2
        gi_wp2_with fail
        refine CallsIn.mono (callsIn_of_calls hF (HK.out)) ?_
        rintro e w4 ⟨rfl, h4, hT4⟩
        rw [HBB2.out]
        rw [HSK.out] at h4
        have HX3 := Lib.hid (And.intro h4 (And.intro (H3.out.2.1.trans hT4) (And.intro (PaTo.box H3.out.1 hT4 H3.out.2.2.1 (by decide) (by decide)) (And.intro (PaTo.box H3.out.1 hT4 H3.out.2.2.2.1 (by decide) (by decide)) (And.intro (H3.out.2.2.2.2.up (PaTo.tk H3.out.1 hT4) (Nat.le_refl _)) (show tval (W.heap.size + 2) (atm [91, 93]) (.agg #[.int .i64 3, .int .i64 0, .string ⟨#[91, 93]⟩, .slice none 0 0]) w4 from tval.leaf (by unfold okI; omega) (by unfold okI; omega) (by decide) (by unfold maxLen; omega)))))))
        clear h4 hT4
        gi_wp2_with fail
        refine CallsIn.mono (callsIn_of_calls hF (sign_any HX3.out.1 HX.out [93])) ?_
        rintro e w7 hQ7
        cases hs7 : signF tot xs [93] st3 with
        | error p =>
          rw [hs7] at hQ7
          obtain ⟨rfl, hb⟩ := hQ7
          refine And.intro rfl ?_
          rw [HPF.out]
          simp only [hs7]
          exact ⟨rfl, hb⟩
        | ok st7 =>
          rw [hs7] at hQ7
          obtain ⟨v7, nv7, rfl, rfl, h7, hT7, hi7⟩ := hQ7
          have hi7' : st3.i + 1 ≤ st7.i := hi7
          have HPE : Hid (listF tot xs (termN tot xs n) st = .ok (consT l (atm [91, 93]), st7)) := by rw [Hid, HPF.out, hs7]
          have H7 := Lib.hid (And.intro h7 (And.intro (HX3.out.2.1.trans hT7) (And.intro (PaTo.box HX3.out.1 hT7 HX3.out.2.2.1 (by decide) (by decide)) (And.intro (PaTo.box HX3.out.1 hT7 HX3.out.2.2.2.1 (by decide) (by decide)) (And.intro (HX3.out.2.2.2.2.1.up (PaTo.tk HX3.out.1 hT7) (Nat.le_refl _)) (HX3.out.2.2.2.2.2.up (PaTo.tk HX3.out.1 hT7) (Nat.le_refl _)))))))
          clear h7 hT7 hi7 hs7
          have hlm' : l.length ≤ 8000 := hl8k
          gi_wp2_with fail
          gi_loopw [5] (fun iv wr => ∃ (j : Nat) (iz : Int) (k m : Int) (s : ByteArray) (x : Option Addr) (y z : Nat), j ≤ l.length ∧ iz = (j : Int) - 1 ∧ iv = .int .i64 iz ∧ PaSt w B b1 b2 V tot xs pv st7 nv7 wr ∧ PaTo B V nv nv7 W wr ∧ Box wr W.heap.size #[.int .i64 0, .int .i64 0, .string ⟨#[]⟩, .slice none 0 0] 31 ∧ Box wr (W.heap.size + 1) #[.int .i64 k, .int .i64 m, .string s, .slice x y z] 31 ∧ lval (W.heap.size + 2) l (.slice la l.length lc) wr ∧ tval (W.heap.size + 2) (consT (l.drop j) (atm [91, 93])) (.agg #[.int .i64 k, .int .i64 m, .string s, .slice x y z]) wr) (fun iv _ => (intOf iv + 1).toNat)
          case atStart => exact ⟨l.length, _, _, _, _, _, _, _, Nat.le_refl _, rfl, by first | rfl | (congr 1), H7.out.1, H7.out.2.1, H7.out.2.2.1, H7.out.2.2.2.1, H7.out.2.2.2.2.1, by rw [List.drop_length]; exact H7.out.2.2.2.2.2⟩
          case round =>
            obtain ⟨j, iz, k, m, s, x, y, z, hj, hiz, rfl, h8, hT8, hR8, hR9, hl8, ht8⟩ := hrel
            have p0 := hR9.cell 0
            have p1 := hR9.cell 1
            have p2 := hR9.cell 2
            have p3 := hR9.cell 3
            have g0 := hR9.frozen 0
            have g1 := hR9.frozen 1
            have g2 := hR9.frozen 2
            have g3 := hR9.frozen 3
            have lp := hR9.lt
            simp only [List.getElem?_toArray, List.getElem?_cons_succ, List.getElem?_cons_zero] at p0 p1 p2 p3
            rcases j with _ | j
            · obtain rfl : iz = -1 := by omega
              have q0 := hR8.cell 0
              have q1 := hR8.cell 1
              have q2 := hR8.cell 2
              have q3 := hR8.cell 3
              have f4 := hR8.frozen 0
              have f5 := hR8.frozen 1
              have f6 := hR8.frozen 2
              have f7 := hR8.frozen 3
              have l1 := hR8.lt
              simp only [List.getElem?_toArray, List.getElem?_cons_succ, List.getElem?_cons_zero] at q0 q1 q2 q3
              have H8 := Lib.hid (And.intro h8 (And.intro hT8 (And.intro hR8 ht8)))
              clear h8 hT8 hR8 hR9 hl8 ht8 hiz
              gi_wp2_with fail
              have hf1 := H8.out.1.put H8.out.2.2.1 (by omega) (.int .i64 k) (.int .i64 m) (.string s) (.slice x y z)
              have hf2 := H8.out.2.1.put (Nat.le_refl _) (.int .i64 k) (.int .i64 m) (.string s) (.slice x y z)
              have hf3 := H8.out.2.2.1.set4 (.int .i64 k) (.int .i64 m) (.string s) (.slice x y z)
              have hf4 := H8.out.2.2.2.set4 (show W.heap.size < W.heap.size + 2 by omega) (.int .i64 k) (.int .i64 m) (.string s) (.slice x y z)
              unfold set4 at hf1 hf2 hf3 hf4
              generalize (((wr.setCell ⟨W.heap.size, 0, none⟩ (.int .i64 k)).setCell ⟨W.heap.size, 1, none⟩ (.int .i64 m)).setCell ⟨W.heap.size, 2, none⟩ (.string s)).setCell ⟨W.heap.size, 3, none⟩ (.slice x y z) = FW at *
              have y0 := hf3.cell 0
              have y1 := hf3.cell 1
              have y2 := hf3.cell 2
              have y3 := hf3.cell 3
              simp only [List.getElem?_toArray, List.getElem?_cons_succ, List.getElem?_cons_zero] at y0 y1 y2 y3
              refine bodyPost_ret (v := .agg #[.int .i64 k, .int .i64 m, .string s, .slice x y z]) (by simp [results, Tryz.results212, go_sem, y0, y1, y2, y3]) rfl ?_
              rw [HPE.out]
              exact ⟨_, nv7, rfl, by simpa using hf4.up (TmK.refl _) (show W.heap.size ≤ W.heap.size + 2 by omega), hf1, hf2, by omega⟩
            · obtain rfl : iz = (j : Int) := by omega
              obtain ⟨b, off, tk, tn, ts, tx, ty, tz, rfl, -, hbw, d0, d1, d2, d3, htj⟩ := hl8.at (i := j) (by omega)
              have hjl : j < l.length := by omega
              have HTD : Hid (consT (l.drop j) (atm [91, 93]) = fn [46] [l[j], consT (l.drop (j + 1)) (atm [91, 93])]) := by rw [Hid, List.drop_eq_getElem_cons hjl]; rfl
              have hsz8 : W.heap.size + 2 ≤ wr.heap.size := by omega
              have H8 := Lib.hid (And.intro h8 (And.intro hT8 (And.intro hR8 (And.intro hR9 (And.intro hl8 (And.intro ht8 htj))))))
              clear h8 hT8 hR8 hR9 hl8 ht8 hiz htj
              gi_wp2_with fail
              refine wpIn_region_mono_tail 7 [.det (.slice (some ⟨b, off, none⟩) l.length lc), .det (.int .i64 (j : Int)), .det (.pointer (some ⟨b, off + j * 4, none⟩)), .det (.agg #[.int .i64 tk, .int .i64 tn, .string ts, .slice tx ty tz]), .det (.agg #[.int .i64 k, .int .i64 m, .string s, .slice x y z]), .any (fun u w => W.heap.size + 2 ≤ w.heap.size ∧ lval (W.heap.size + 2) [l[j], consT (l.drop (j + 1)) (atm [91, 93])] u w), .any (fun u w => tval (W.heap.size + 2) (fn [46] [l[j], consT (l.drop (j + 1)) (atm [91, 93])]) u w)] hf hd (fun k f args w R h => callsIn_of_calls hF h) (by kernel_rfl) (by kernel_rfl) ?_ ?_
              · intro y hy
                simp only [List.mem_cons, List.not_mem_nil, or_false] at hy
                rcases hy with rfl | rfl | rfl | rfl | rfl | rfl | rfl <;> first | trivial | exact lval.steady _ _ _ | exact tval.steady _ _
              simp only [List.take_succ_cons, List.take_zero, List.drop_succ_cons, List.drop_zero]
              iterate 5 (
                refine wpM_step (fun K hK => ?_)
                go_simp
                apply And.intro
                · intro w' hC _
                  have q1 := hC.old.1
                  have hbs := hC.old.2.2
                  clear hC
                  go_simp
                  exact Ext.refl _
                refine nextM_det (hK _ _ ?_)
                clear hK K)
              refine wpM_step (fun K hK => ?_)
              go_simp
              apply And.intro
              · intro w' hC _
                have hK := TmK.of_below hC
                go_simp
                refine ⟨below_a1 (Nat.le_refl _) _, ?_⟩
                refine ⟨by have := Below.size hC; simp; omega, ?_⟩
                exact lval.two (H8.out.2.2.2.2.2.2.up hK (Nat.le_refl _)) (H8.out.2.2.2.2.2.1.up hK (Nat.le_refl _)) (by have := Below.size hC; omega)
              refine nextM_any (fun y5 => hK _ _ ?_)
              clear hK K
              refine wpM_step (fun K hK => ?_)
              go_simp
              apply And.intro
              · intro w' hC hd'
                have hy := hd' ⟨5, .data⟩ (by simp) rfl y5 rfl
                have hy2 : W.heap.size + 2 ≤ w'.heap.size ∧ lval (W.heap.size + 2) [l[j], consT (l.drop (j + 1)) (atm [91, 93])] y5 w' := hy
                clear hy
                have hS := structure_any [46] (by decide) _ y5 _ w' hy2.1 hy2.2
                obtain ⟨ya, yc, rfl, -⟩ := hy2.2
                go_simp
                refine ⟨Ext.refl _, hS.mono ?_⟩
                rintro e w2' ⟨u, rfl, hu, hB⟩
                exact ⟨u, rfl, hB, hu⟩
              refine nextM_any (fun y6 => hK _ _ ?_)
              clear hK K
              refine wpM_nil ?_
              intro w9 hC hE
              have hy : tval (W.heap.size + 2) (fn [46] [l[j], consT (l.drop (j + 1)) (atm [91, 93])]) y6 w9 := hE 6 y6 rfl
              clear hE
              obtain ⟨e0, e1, e2, e3, em, e4, rfl⟩ := IsP.formP hy
              have hR10 := H8.out.2.2.2.1.keep hC
              have c0 := hR10.cell 0
              have c1 := hR10.cell 1
              have c2 := hR10.cell 2
              have c3 := hR10.cell 3
              have h0 := hR10.frozen 0
              have h1 := hR10.frozen 1
              have h2 := hR10.frozen 2
              have h3 := hR10.frozen 3
              have lc9 := hR10.lt
              simp only [List.getElem?_toArray, List.getElem?_cons_succ, List.getElem?_cons_zero] at c0 c1 c2 c3
              have hP9 := (H8.out.1.up hC).put hR10 (by omega) (.int .i64 e0) (.int .i64 e1) (.string e2) (.slice e3 em e4)
              have hT9 := (H8.out.2.1.trans (PaTo.up (B := B) (V := V) (nv := nv7) hC)).put (R := W.heap.size + 1) (by omega) (.int .i64 e0) (.int .i64 e1) (.string e2) (.slice e3 em e4)
              have hR11 : Box (set4 w9 (W.heap.size + 1) (.int .i64 e0) (.int .i64 e1) (.string e2) (.slice e3 em e4)) W.heap.size #[.int .i64 0, .int .i64 0, .string ⟨#[]⟩, .slice none 0 0] 31 := (set4_block _ _ _ _ _ _ _ (by omega)).trans (H8.out.2.2.1.keep hC)
              have hR12 := hR10.set4 (.int .i64 e0) (.int .i64 e1) (.string e2) (.slice e3 em e4)
              have hl9 := (H8.out.2.2.2.2.1.up (TmK.of_below hC) (Nat.le_refl _)).far (W' := set4 w9 (W.heap.size + 1) (.int .i64 e0) (.int .i64 e1) (.string e2) (.slice e3 em e4)) (fun b hb _ => set4_block _ _ _ _ _ _ _ (by omega))
              have ht9 := hy.set4 (show W.heap.size + 1 < W.heap.size + 2 by omega) (.int .i64 e0) (.int .i64 e1) (.string e2) (.slice e3 em e4)
              rw [← HTD.out] at ht9
              have H9 := Lib.hid (And.intro hP9 (And.intro hT9 (And.intro hR11 (And.intro hR12 (And.intro hl9 ht9)))))
              unfold set4 at H9
              clear hP9 hT9 hR10 hR11 hR12 hl9 ht9 hy hC p0 p1 p2 p3 d0 d1 d2 d3
              gi_wp2_with fail
              refine ⟨⟨j, (j : Int) - 1, _, _, _, _, _, _, by omega, rfl, rfl, H9.out⟩, ?_⟩
              simp only [intOf]
              omega
      | true =>
        have hlt := isSg_lt hb2
        have HSK : Hid (skp xs [124] st3 = ⟨st3.i + 1, st3.ns⟩) := by rw [Hid, skp, hb2]; rfl
        have HBB2 := Lib.hid hb2
        clear hb2
        gi_wp2_with fail
        refine CallsIn.mono (callsIn_of_calls hF (HK.out)) ?_
        rintro e w4 ⟨rfl, h4, hT4⟩
        rw [HBB2.out]
        rw [HSK.out] at h4
        have hw34 := hT4.size
        have HC := Lib.hid (HT.out 999 ⟨st3.i + 1, st3.ns⟩ nv3 w4 (by omega) (by omega) h4 (by show xs.length < n + (st3.i + 1); have := HN.out; omega))
        have H4 := Lib.hid (And.intro h4 (And.intro (H3.out.2.1.trans hT4) (And.intro (PaTo.box H3.out.1 hT4 H3.out.2.2.1 (by decide) (by decide)) (And.intro (PaTo.box H3.out.1 hT4 H3.out.2.2.2.1 (by decide) (by decide)) (H3.out.2.2.2.2.up (PaTo.tk H3.out.1 hT4) (Nat.le_refl _))))))
        clear h4 hT4
        gi_wp2_with fail
        refine CallsIn.mono (callsIn_of_calls hF (HC.out)) ?_
        rintro e w5 hQ5
        cases hr5 : termN tot xs n 999 ⟨st3.i + 1, st3.ns⟩ with
        | error p =>
          rw [hr5] at hQ5
          obtain ⟨rfl, hb⟩ := hQ5
          refine And.intro rfl ?_
          rw [HP.out.1, HR.out]
          simp only [HBB2.out, if_true, hr5]
          exact ⟨rfl, hb⟩
        | ok x =>
          obtain ⟨t5, st5⟩ := x
          rw [hr5] at hQ5
          obtain ⟨v5, nv5, rfl, ht5, h5, hT5, hi5⟩ := hQ5
          obtain ⟨a0, a1, a2, a3, am, a4, rfl⟩ := IsP.formP ht5
          have HPF : Hid (listF tot xs (termN tot xs n) st = match signF tot xs [93] st5 with | .error e => .error e | .ok st6 => .ok (consT l t5, st6)) := by rw [Hid, HP.out.1, HR.out]; simp only [HBB2.out, if_true, hr5]
          have hR6 := PaTo.box H4.out.1 hT5 H4.out.2.2.1 (by decide) (by decide)
          have hR7 := PaTo.box H4.out.1 hT5 H4.out.2.2.2.1 (by decide) (by decide)
          have hl5 := H4.out.2.2.2.2.up (PaTo.tk H4.out.1 hT5) (Nat.le_refl _)
          have hw45 := hT5.size
          have HX3 := Lib.hid (And.intro (h5.put hR7 (by omega) (.int .i64 a0) (.int .i64 a1) (.string a2) (.slice a3 am a4)) (And.intro ((H4.out.2.1.trans hT5).put (R := W.heap.size + 1) (by omega) (.int .i64 a0) (.int .i64 a1) (.string a2) (.slice a3 am a4)) (And.intro (show Box (set4 w5 (W.heap.size + 1) (.int .i64 a0) (.int .i64 a1) (.string a2) (.slice a3 am a4)) W.heap.size #[.int .i64 0, .int .i64 0, .string ⟨#[]⟩, .slice none 0 0] 31 from (set4_block _ _ _ _ _ _ _ (by omega)).trans hR6) (And.intro (hR7.set4 (.int .i64 a0) (.int .i64 a1) (.string a2) (.slice a3 am a4)) (And.intro (hl5.far (W' := set4 w5 (W.heap.size + 1) (.int .i64 a0) (.int .i64 a1) (.string a2) (.slice a3 am a4)) (fun b hb _ => set4_block _ _ _ _ _ _ _ (by omega))) ((ht5.up (TmK.refl _) (show W.heap.size + 2 ≤ w4.heap.size by omega)).set4 (show W.heap.size + 1 < W.heap.size + 2 by omega) (.int .i64 a0) (.int .i64 a1) (.string a2) (.slice a3 am a4)))))))
          have k0 := hR7.cell 0
          have k1 := hR7.cell 1
          have k2 := hR7.cell 2
          have k3 := hR7.cell 3
          have g0 := hR7.frozen 0
          have g1 := hR7.frozen 1
          have g2 := hR7.frozen 2
          have g3 := hR7.frozen 3
          have lk := hR7.lt
          have hi5' : st3.i + 1 + 1 ≤ st5.i := hi5
          simp only [List.getElem?_toArray, List.getElem?_cons_succ, List.getElem?_cons_zero] at k0 k1 k2 k3
          clear ht5 h5 hT5 hi5 hR6 hR7 hl5 hr5
          unfold set4 at HX3
          gi_wp2_with fail
          generalize (((w5.setCell ⟨W.heap.size + 1, 0, none⟩ (.int .i64 a0)).setCell ⟨W.heap.size + 1, 1, none⟩ (.int .i64 a1)).setCell ⟨W.heap.size + 1, 2, none⟩ (.string a2)).setCell ⟨W.heap.size + 1, 3, none⟩ (.slice a3 am a4) = w6 at *
          clear k0 k1 k2 k3 g0 g1 g2 g3 lk
          refine CallsIn.mono (callsIn_of_calls hF (sign_any HX3.out.1 HX.out [93])) ?_
          rintro e w7 hQ7
          cases hs7 : signF tot xs [93] st5 with
          | error p =>
            rw [hs7] at hQ7
            obtain ⟨rfl, hb⟩ := hQ7
            refine And.intro rfl ?_
            rw [HPF.out]
            simp only [hs7]
            exact ⟨rfl, hb⟩
          | ok st7 =>
            rw [hs7] at hQ7
            obtain ⟨v7, nv7, rfl, rfl, h7, hT7, hi7⟩ := hQ7
            have hi7' : st5.i + 1 ≤ st7.i := hi7
            have HPE : Hid (listF tot xs (termN tot xs n) st = .ok (consT l t5, st7)) := by rw [Hid, HPF.out, hs7]
            have H7 := Lib.hid (And.intro h7 (And.intro (HX3.out.2.1.trans hT7) (And.intro (PaTo.box HX3.out.1 hT7 HX3.out.2.2.1 (by decide) (by decide)) (And.intro (PaTo.box HX3.out.1 hT7 HX3.out.2.2.2.1 (by decide) (by decide)) (And.intro (HX3.out.2.2.2.2.1.up (PaTo.tk HX3.out.1 hT7) (Nat.le_refl _)) (HX3.out.2.2.2.2.2.up (PaTo.tk HX3.out.1 hT7) (Nat.le_refl _)))))))
            clear h7 hT7 hi7 hs7
            have hlm' : l.length ≤ 8000 := hl8k
            gi_wp2_with fail
            gi_loopw [5] (fun iv wr => ∃ (j : Nat) (iz : Int) (k m : Int) (s : ByteArray) (x : Option Addr) (y z : Nat), j ≤ l.length ∧ iz = (j : Int) - 1 ∧ iv = .int .i64 iz ∧ PaSt w B b1 b2 V tot xs pv st7 nv7 wr ∧ PaTo B V nv nv7 W wr ∧ Box wr W.heap.size #[.int .i64 0, .int .i64 0, .string ⟨#[]⟩, .slice none 0 0] 31 ∧ Box wr (W.heap.size + 1) #[.int .i64 k, .int .i64 m, .string s, .slice x y z] 31 ∧ lval (W.heap.size + 2) l (.slice la l.length lc) wr ∧ tval (W.heap.size + 2) (consT (l.drop j) t5) (.agg #[.int .i64 k, .int .i64 m, .string s, .slice x y z]) wr) (fun iv _ => (intOf iv + 1).toNat)
            case atStart => exact ⟨l.length, _, _, _, _, _, _, _, Nat.le_refl _, rfl, by first | rfl | (congr 1), H7.out.1, H7.out.2.1, H7.out.2.2.1, H7.out.2.2.2.1, H7.out.2.2.2.2.1, by rw [List.drop_length]; exact H7.out.2.2.2.2.2⟩
            case round =>
              obtain ⟨j, iz, k, m, s, x, y, z, hj, hiz, rfl, h8, hT8, hR8, hR9, hl8, ht8⟩ := hrel
              have p0 := hR9.cell 0
              have p1 := hR9.cell 1
              have p2 := hR9.cell 2
              have p3 := hR9.cell 3
              have g0 := hR9.frozen 0
              have g1 := hR9.frozen 1
              have g2 := hR9.frozen 2
              have g3 := hR9.frozen 3
              have lp := hR9.lt
              simp only [List.getElem?_toArray, List.getElem?_cons_succ, List.getElem?_cons_zero] at p0 p1 p2 p3
              rcases j with _ | j
              · obtain rfl : iz = -1 := by omega
                have q0 := hR8.cell 0
                have q1 := hR8.cell 1
                have q2 := hR8.cell 2
                have q3 := hR8.cell 3
                have f4 := hR8.frozen 0
                have f5 := hR8.frozen 1
                have f6 := hR8.frozen 2
                have f7 := hR8.frozen 3
                have l1 := hR8.lt
                simp only [List.getElem?_toArray, List.getElem?_cons_succ, List.getElem?_cons_zero] at q0 q1 q2 q3
                have H8 := Lib.hid (And.intro h8 (And.intro hT8 (And.intro hR8 ht8)))
                clear h8 hT8 hR8 hR9 hl8 ht8 hiz
                gi_wp2_with fail
                have hf1 := H8.out.1.put H8.out.2.2.1 (by omega) (.int .i64 k) (.int .i64 m) (.string s) (.slice x y z)
                have hf2 := H8.out.2.1.put (Nat.le_refl _) (.int .i64 k) (.int .i64 m) (.string s) (.slice x y z)
                have hf3 := H8.out.2.2.1.set4 (.int .i64 k) (.int .i64 m) (.string s) (.slice x y z)
                have hf4 := H8.out.2.2.2.set4 (show W.heap.size < W.heap.size + 2 by omega) (.int .i64 k) (.int .i64 m) (.string s) (.slice x y z)
                unfold set4 at hf1 hf2 hf3 hf4
                generalize (((wr.setCell ⟨W.heap.size, 0, none⟩ (.int .i64 k)).setCell ⟨W.heap.size, 1, none⟩ (.int .i64 m)).setCell ⟨W.heap.size, 2, none⟩ (.string s)).setCell ⟨W.heap.size, 3, none⟩ (.slice x y z) = FW at *
                have y0 := hf3.cell 0
                have y1 := hf3.cell 1
                have y2 := hf3.cell 2
                have y3 := hf3.cell 3
                simp only [List.getElem?_toArray, List.getElem?_cons_succ, List.getElem?_cons_zero] at y0 y1 y2 y3
                refine bodyPost_ret (v := .agg #[.int .i64 k, .int .i64 m, .string s, .slice x y z]) (by simp [results, Tryz.results212, go_sem, y0, y1, y2, y3]) rfl ?_
                rw [HPE.out]
                exact ⟨_, nv7, rfl, by simpa using hf4.up (TmK.refl _) (show W.heap.size ≤ W.heap.size + 2 by omega), hf1, hf2, by omega⟩
              · obtain rfl : iz = (j : Int) := by omega
                obtain ⟨b, off, tk, tn, ts, tx, ty, tz, rfl, -, hbw, d0, d1, d2, d3, htj⟩ := hl8.at (i := j) (by omega)
                have hjl : j < l.length := by omega
                have HTD : Hid (consT (l.drop j) t5 = fn [46] [l[j], consT (l.drop (j + 1)) t5]) := by rw [Hid, List.drop_eq_getElem_cons hjl]; rfl
                have hsz8 : W.heap.size + 2 ≤ wr.heap.size := by omega
                have H8 := Lib.hid (And.intro h8 (And.intro hT8 (And.intro hR8 (And.intro hR9 (And.intro hl8 (And.intro ht8 htj))))))
                clear h8 hT8 hR8 hR9 hl8 ht8 hiz htj
                gi_wp2_with fail
                refine wpIn_region_mono_tail 7 [.det (.slice (some ⟨b, off, none⟩) l.length lc), .det (.int .i64 (j : Int)), .det (.pointer (some ⟨b, off + j * 4, none⟩)), .det (.agg #[.int .i64 tk, .int .i64 tn, .string ts, .slice tx ty tz]), .det (.agg #[.int .i64 k, .int .i64 m, .string s, .slice x y z]), .any (fun u w => W.heap.size + 2 ≤ w.heap.size ∧ lval (W.heap.size + 2) [l[j], consT (l.drop (j + 1)) t5] u w), .any (fun u w => tval (W.heap.size + 2) (fn [46] [l[j], consT (l.drop (j + 1)) t5]) u w)] hf hd (fun k f args w R h => callsIn_of_calls hF h) (by kernel_rfl) (by kernel_rfl) ?_ ?_
                · intro y hy
                  simp only [List.mem_cons, List.not_mem_nil, or_false] at hy
                  rcases hy with rfl | rfl | rfl | rfl | rfl | rfl | rfl <;> first | trivial | exact lval.steady _ _ _ | exact tval.steady _ _
                simp only [List.take_succ_cons, List.take_zero, List.drop_succ_cons, List.drop_zero]
                iterate 5 (
                  refine wpM_step (fun K hK => ?_)
                  go_simp
                  apply And.intro
                  · intro w' hC _
                    have q1 := hC.old.1
                    have hbs := hC.old.2.2
                    clear hC
                    go_simp
                    exact Ext.refl _
                  refine nextM_det (hK _ _ ?_)
                  clear hK K)
                refine wpM_step (fun K hK => ?_)
                go_simp
                apply And.intro
                · intro w' hC _
                  have hK := TmK.of_below hC
                  go_simp
                  refine ⟨below_a1 (Nat.le_refl _) _, ?_⟩
                  refine ⟨by have := Below.size hC; simp; omega, ?_⟩
                  exact lval.two (H8.out.2.2.2.2.2.2.up hK (Nat.le_refl _)) (H8.out.2.2.2.2.2.1.up hK (Nat.le_refl _)) (by have := Below.size hC; omega)
                refine nextM_any (fun y5 => hK _ _ ?_)
                clear hK K
                refine wpM_step (fun K hK => ?_)
                go_simp
                apply And.intro
                · intro w' hC hd'
                  have hy := hd' ⟨5, .data⟩ (by simp) rfl y5 rfl
                  have hy2 : W.heap.size + 2 ≤ w'.heap.size ∧ lval (W.heap.size + 2) [l[j], consT (l.drop (j + 1)) t5] y5 w' := hy
                  clear hy
                  have hS := structure_any [46] (by decide) _ y5 _ w' hy2.1 hy2.2
                  obtain ⟨ya, yc, rfl, -⟩ := hy2.2
                  go_simp
                  refine ⟨Ext.refl _, hS.mono ?_⟩
                  rintro e w2' ⟨u, rfl, hu, hB⟩
                  exact ⟨u, rfl, hB, hu⟩
                refine nextM_any (fun y6 => hK _ _ ?_)
                clear hK K
                refine wpM_nil ?_
                intro w9 hC hE
                have hy : tval (W.heap.size + 2) (fn [46] [l[j], consT (l.drop (j + 1)) t5]) y6 w9 := hE 6 y6 rfl
                clear hE
                obtain ⟨e0, e1, e2, e3, em, e4, rfl⟩ := IsP.formP hy
                have hR10 := H8.out.2.2.2.1.keep hC
                have c0 := hR10.cell 0
                have c1 := hR10.cell 1
                have c2 := hR10.cell 2
                have c3 := hR10.cell 3
                have h0 := hR10.frozen 0
                have h1 := hR10.frozen 1
                have h2 := hR10.frozen 2
                have h3 := hR10.frozen 3
                have lc9 := hR10.lt
                simp only [List.getElem?_toArray, List.getElem?_cons_succ, List.getElem?_cons_zero] at c0 c1 c2 c3
                have hP9 := (H8.out.1.up hC).put hR10 (by omega) (.int .i64 e0) (.int .i64 e1) (.string e2) (.slice e3 em e4)
                have hT9 := (H8.out.2.1.trans (PaTo.up (B := B) (V := V) (nv := nv7) hC)).put (R := W.heap.size + 1) (by omega) (.int .i64 e0) (.int .i64 e1) (.string e2) (.slice e3 em e4)
                have hR11 : Box (set4 w9 (W.heap.size + 1) (.int .i64 e0) (.int .i64 e1) (.string e2) (.slice e3 em e4)) W.heap.size #[.int .i64 0, .int .i64 0, .string ⟨#[]⟩, .slice none 0 0] 31 := (set4_block _ _ _ _ _ _ _ (by omega)).trans (H8.out.2.2.1.keep hC)
                have hR12 := hR10.set4 (.int .i64 e0) (.int .i64 e1) (.string e2) (.slice e3 em e4)
                have hl9 := (H8.out.2.2.2.2.1.up (TmK.of_below hC) (Nat.le_refl _)).far (W' := set4 w9 (W.heap.size + 1) (.int .i64 e0) (.int .i64 e1) (.string e2) (.slice e3 em e4)) (fun b hb _ => set4_block _ _ _ _ _ _ _ (by omega))
                have ht9 := hy.set4 (show W.heap.size + 1 < W.heap.size + 2 by omega) (.int .i64 e0) (.int .i64 e1) (.string e2) (.slice e3 em e4)
                rw [← HTD.out] at ht9
                have H9 := Lib.hid (And.intro hP9 (And.intro hT9 (And.intro hR11 (And.intro hR12 (And.intro hl9 ht9)))))
                unfold set4 at H9
                clear hP9 hT9 hR10 hR11 hR12 hl9 ht9 hy hC p0 p1 p2 p3 d0 d1 d2 d3
                gi_wp2_with fail
                refine ⟨⟨j, (j : Int) - 1, _, _, _, _, _, _, by omega, rfl, rfl, H9.out⟩, ?_⟩
                simp only [intOf]
                omega
end
end Go.Proofs.YthfciekhmbfmfaaGreatDoor
