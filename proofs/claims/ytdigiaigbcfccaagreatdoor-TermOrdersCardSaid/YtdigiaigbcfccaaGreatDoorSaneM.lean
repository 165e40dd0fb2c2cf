/- The chapter's examples: what they are, and the contracts at them. -/
import Derived.Test.YtdigiaigbcfccaaGreatDoorGeneral
import Derived.Test.YtdigiaigbcfccaaGreatDoorEqL
import Derived.Test.YtdigiaigbcfccaaGreatDoorRSame
import Derived.Test.YtdigiaigbcfccaaGreatDoorOrd
namespace Go.Proofs.YtdigiaigbcfccaaGreatDoor
open Go.RowKit Go

def sa : ByteArray := ⟨#[97]⟩
def sb : ByteArray := ⟨#[98]⟩
def sc : ByteArray := ⟨#[99]⟩
def sf : ByteArray := ⟨#[102]⟩
def sg : ByteArray := ⟨#[103]⟩
def sdot : ByteArray := ⟨#[46]⟩
def snil : ByteArray := ⟨#[91, 93]⟩
def sX : Tr := tF sf [tV 0, tF sdot [tA sa, tA snil]]
def sC1 : Tr := tF sg [tA sa]
def sC2 : Tr := tF sf [tA sa, tA sb]
def sS : Tr := tF sf [tV 0, tV 1]
def sL : List Tr := [tF sg [tV 1], tA sa]
def sR : Tr := tF sf [tF sg [tV 1], tA sa]
def sP : Tr := tF sf [tV 0, tV 0]
def sT1 : Tr := tF sf [tA sa, tA sa]
def sG1 : Tr := tF sf [tA sa, tF sg [tA sa], tA sa]
def sG2 : Tr := tF sf [tA sb, tF sg [tA sb], tA sc]
def sG : Tr := tF sf [tV 0, tF sg [tV 0], tV 1]
def sN : List Tr := [tF sf [tV 2, tV 0], tV 2]
def sM : List Tr := [tF sf [tV 0, tV 1], tV 0]

theorem emp_nil : emp.toList = [] := by rw [emp, ByteArray.toList, ByteArray.toList.loop, if_neg (by decide)]; rfl
theorem good_V {n : Int} (h : 0 ≤ n) (h' : n < 100000) : (tV n).good = true := by simp [tV, Tr.good, goodL, nodeB, emp_nil, h, h']
theorem good_A {s : ByteArray} (h : nameB s = true) : (tA s).good = true := by simp [tA, Tr.good, goodL, nodeB, h]
theorem good_F {s : ByteArray} {l : List Tr} (h : nameB s = true) (hl : goodL l = true) (h1 : 1 ≤ l.length) (h2 : l.length ≤ 16) : (tF s l).good = true := by simp [tF, Tr.good, nodeB, h, hl, h1, h2]
theorem name_a : nameB sa = true := by decide
theorem name_b : nameB sb = true := by decide
theorem name_c : nameB sc = true := by decide
theorem name_f : nameB sf = true := by decide
theorem name_g : nameB sg = true := by decide
theorem name_dot : nameB sdot = true := by decide
theorem name_nil : nameB snil = true := by decide
theorem goodL_cons {t : Tr} {ts : List Tr} (h : t.good = true) (hs : goodL ts = true) : goodL (t :: ts) = true := by simp [goodL, h, hs]
theorem goodL_nil : goodL [] = true := rfl
theorem isB_mk {T : Tr} (h : T.good = true) (h1 : T.size ≤ 4000) (h2 : T.deep ≤ 600) : isB T = true := by rw [isB_good, h]; simp [h1, h2]
theorem isB_X : isB sX = true := isB_mk (good_F name_f (goodL_cons (good_V (by omega) (by omega)) (goodL_cons (good_F name_dot (goodL_cons (good_A name_a) (goodL_cons (good_A name_nil) goodL_nil)) (by simp) (by simp)) goodL_nil)) (by simp) (by simp)) (by decide) (by decide)
theorem isB_C1 : isB sC1 = true := isB_mk (good_F name_g (goodL_cons (good_A name_a) goodL_nil) (by simp) (by simp)) (by decide) (by decide)
theorem isB_C2 : isB sC2 = true := isB_mk (good_F name_f (goodL_cons (good_A name_a) (goodL_cons (good_A name_b) goodL_nil)) (by simp) (by simp)) (by decide) (by decide)
theorem isB_S : isB sS = true := isB_mk (good_F name_f (goodL_cons (good_V (by omega) (by omega)) (goodL_cons (good_V (by omega) (by omega)) goodL_nil)) (by simp) (by simp)) (by decide) (by decide)
theorem isB_gV : isB (tF sg [tV 1]) = true := isB_mk (good_F name_g (goodL_cons (good_V (by omega) (by omega)) goodL_nil) (by simp) (by simp)) (by decide) (by decide)
theorem isB_A : isB (tA sa) = true := isB_mk (good_A name_a) (by decide) (by decide)
theorem isB_P : isB sP = true := isB_mk (good_F name_f (goodL_cons (good_V (by omega) (by omega)) (goodL_cons (good_V (by omega) (by omega)) goodL_nil)) (by simp) (by simp)) (by decide) (by decide)
theorem isB_T1 : isB sT1 = true := isB_mk (good_F name_f (goodL_cons (good_A name_a) (goodL_cons (good_A name_a) goodL_nil)) (by simp) (by simp)) (by decide) (by decide)
theorem isB_G1 : isB sG1 = true := isB_mk (good_F name_f (goodL_cons (good_A name_a) (goodL_cons (good_F name_g (goodL_cons (good_A name_a) goodL_nil) (by simp) (by simp)) (goodL_cons (good_A name_a) goodL_nil))) (by simp) (by simp)) (by decide) (by decide)
theorem isB_G2 : isB sG2 = true := isB_mk (good_F name_f (goodL_cons (good_A name_b) (goodL_cons (good_F name_g (goodL_cons (good_A name_b) goodL_nil) (by simp) (by simp)) (goodL_cons (good_A name_c) goodL_nil))) (by simp) (by simp)) (by decide) (by decide)
theorem isB_zero : isB zeroTr = false := by rw [isB_good]; simp [zeroTr, Tr.good, nodeB]
theorem isB_N1 : isB (tF sf [tV 2, tV 0]) = true := isB_mk (good_F name_f (goodL_cons (good_V (by omega) (by omega)) (goodL_cons (good_V (by omega) (by omega)) goodL_nil)) (by simp) (by simp)) (by decide) (by decide)
theorem isB_N2 : isB (tV 2) = true := isB_mk (good_V (by omega) (by omega)) (by decide) (by decide)

theorem ord_C : ordT sC1 sC2 = -1 := by decide
theorem paths_X : pathsT sX = [[], [0], [1], [1, 0], [1, 1]] := by decide
theorem subOk_L : subOkB sL = true := by simp [subOkB, sL, isB_gV, isB_A]
theorem sub_S : subT sL sS = sR := by simp [sS, sL, sR, tF, tV, tA, subT, subL, putsB, Tr.kind]
theorem fits_R : fitsB sR = true := by decide
theorem match_1 : matchR sP sT1 = some [tA sa] := by
  rw [matchR, isB_P, isB_T1]
  rfl
theorem match_2 : matchR sP sC2 = none := by
  rw [matchR, isB_P, isB_C2]
  rfl
theorem text_bc : ¬ textT (tA sc) = textT (tA sb) := by
  simp only [tA, textT]
  intro h
  have h1 := List.append_cancel_left h
  have h2 := List.append_cancel_left h1
  have h3 := List.append_cancel_left h2
  have h4 := List.append_cancel_left h3
  revert h4
  decide
theorem gen_12 : (genT sG1 sG2 []).1 = sG := by
  have e1 : genT (tA sa) (tA sb) [] = (tV 0, [textT (tA sa) ++ textT (tA sb)]) := by
    rw [tA, genT, if_pos (.inr (by decide))]
    rfl
  have e2 : genT (tA sa) (tA sb) [textT (tA sa) ++ textT (tA sb)] = (tV 0, [textT (tA sa) ++ textT (tA sb)]) := by
    rw [tA, genT, if_pos (.inr (by decide))]
    simp [numK, addK, tV, tA]
  have e3 : genT (tA sa) (tA sc) [textT (tA sa) ++ textT (tA sb)] = (tV 1, [textT (tA sa) ++ textT (tA sb), textT (tA sa) ++ textT (tA sc)]) := by
    have hne : ¬ (textT (tA sa) ++ textT (tA sc)) ∈ [textT (tA sa) ++ textT (tA sb)] := by
      intro h
      rw [List.mem_singleton] at h
      exact text_bc (List.append_cancel_left h)
    show genT (.node 3 0 sa []) (tA sc) _ = _
    rw [genT, if_pos (.inr (by decide))]
    show (Tr.node 1 (numK _ (textT (tA sa) ++ textT (tA sc))) emp [], addK _ (textT (tA sa) ++ textT (tA sc))) = _
    rw [numK, addK, if_neg hne, if_neg hne]
    rfl
  have e4 : genT (tF sg [tA sa]) (tF sg [tA sb]) [textT (tA sa) ++ textT (tA sb)] = (tF sg [tV 0], [textT (tA sa) ++ textT (tA sb)]) := by
    rw [tF, genT, if_neg (by decide)]
    simp only [Tr.subs, tF, genL, e2]
  show (genT (.node 5 0 sf [tA sa, tF sg [tA sa], tA sa]) sG2 []).1 = sG
  rw [genT, if_neg (by decide)]
  show Tr.node 5 0 sf (genL [tA sa, tF sg [tA sa], tA sa] [tA sb, tF sg [tA sb], tA sc] []).1 = sG
  simp only [genL, e1, e3, e4]
  rfl
theorem norm_N : normT sN = sM := by rfl
theorem vars_N : varsL [] sN = [2, 0] := by rfl
end Go.Proofs.YtdigiaigbcfccaaGreatDoor

/- The contracts at the chapter's examples. -/
namespace Go.Proofs.YtdigiaigbcfccaaGreatDoor
open Go.RowKit Go

theorem NumsL.get {p : Nat → Prop} {lo : Nat} {W : World} : ∀ {us : List Value} {ls : List (List Int)}, NumsL p lo W us ls → ∀ j (hj : j < ls.length), ∃ u, us[j]? = some u ∧ Nums lo W u ls[j]
  | [], [], _, j, hj => by simp at hj
  | [], _ :: _, h, _, _ => h.elim
  | _ :: _, [], h, _, _ => h.elim
  | u :: us, x :: xs, h, 0, _ => ⟨u, rfl, h.1.1⟩
  | u :: us, x :: xs, h, j + 1, hj => by
    obtain ⟨y, h1, h2⟩ := NumsL.get h.2 j (by simpa using hj)
    exact ⟨y, by simpa using h1, by simpa using h2⟩
theorem NumsS.rd {lo : Nat} {W : World} {v : Value} {ls : List (List Int)} (h : NumsS lo W v ls) : RdNN W.heap.size W ls v := by
  obtain ⟨us, hown, hL⟩ := h
  have hh := hown
  rcases hown.2 with ⟨rfl, h0⟩ | ⟨g, cap, cur, rfl, h1, h2, h3, h4, h5, h6⟩
  · have : ls = [] := List.length_eq_zero_iff.1 h0
    subst this
    exact ⟨none, 0, rfl, by simp, fun h => by simp at h⟩
  · refine ⟨_, cap, rfl, Nat.le_trans h3 h4, fun _ => ⟨g, 0, rfl, (Array.getElem?_eq_some_iff.1 h2).1, fun j hj => ?_⟩⟩
    obtain ⟨u, hu, hn⟩ := hL.get j hj
    refine ⟨u, ?_, hn.rd⟩
    have := World.ownsRow.cells hh (g := g) rfl j u hu
    rwa [Addr.add_lit] at this
theorem RdNN.keep {n₀ n₁ : Nat} {A B : World} {ls : List (List Int)} {v : Value} (h : RdNN n₀ A ls v) (hb : Below n₀ A B) (hn : n₀ ≤ n₁) : RdNN n₁ B ls v := by
  obtain ⟨a, c, e, h1, h2⟩ := h
  refine ⟨a, c, e, h1, fun h0 => ?_⟩
  obtain ⟨b, off, e2, h3, h4⟩ := h2 h0
  refine ⟨b, off, e2, by omega, fun j hj => ?_⟩
  obtain ⟨u, h5, h6⟩ := h4 j hj
  exact ⟨u, (hb.cell (p := ⟨b, off + j, none⟩) h3).trans h5, h6.keep hb hn⟩
theorem RdNN.up {n₀ : Nat} {A B : World} {ls : List (List Int)} {v : Value} (h : RdNN n₀ A ls v) (hb : Below n₀ A B) (hn : n₀ ≤ B.heap.size) : RdNN B.heap.size B ls v := h.keep hb hn
theorem RdN.up {n₀ : Nat} {A B : World} {ls : List Int} {v : Value} (h : RdN n₀ A ls v) (hb : Below n₀ A B) (hn : n₀ ≤ B.heap.size) : RdN B.heap.size B ls v := h.keep hb hn
theorem IsPS.toS {p : Nat → Prop} {n₀ : Nat} {W : World} {l : List Tr} {v : Value} (h : IsPS p W l v) (hp : ∀ b, p b → b < n₀) : IsS n₀ W l v := by
  obtain ⟨a, c, e, h1, h2, h3⟩ := h
  exact ⟨a, c, e, h1, h2, IsPL.toL hp l a h3⟩

theorem isS1 {W : World} {T : Tr} {v0 v1 v2 v3 : Value} (h : IsT W.heap.size W T (.agg #[v0, v1, v2, v3])) :
    IsS (W.alloc (.cells #[v0, v1, v2, v3] 24)).heap.size (W.alloc (.cells #[v0, v1, v2, v3] 24)) [T] (.slice (some ⟨W.heap.size, 0, none⟩) 1 1) := by
  have hb : Box (W.alloc (.cells #[v0, v1, v2, v3] 24)) W.heap.size #[v0, v1, v2, v3] 24 := Box.at rfl
  exact ⟨_, 1, rfl, by simp, by decide, IsL.cons (by simp) (hb.cell 0) (hb.cell 1) (hb.cell 2) (hb.cell 3) (h.up (below_a1 (Nat.le_refl _) _) (size_a1 (Nat.le_refl _) _)) IsL.nil⟩
theorem isS2 {W : World} {T U : Tr} {v0 v1 v2 v3 u0 u1 u2 u3 : Value} (h : IsT W.heap.size W T (.agg #[v0, v1, v2, v3])) (k : IsT W.heap.size W U (.agg #[u0, u1, u2, u3])) :
    IsS (W.alloc (.cells #[v0, v1, v2, v3, u0, u1, u2, u3] 24)).heap.size (W.alloc (.cells #[v0, v1, v2, v3, u0, u1, u2, u3] 24)) [T, U] (.slice (some ⟨W.heap.size, 0, none⟩) 2 2) := by
  have hb : Box (W.alloc (.cells #[v0, v1, v2, v3, u0, u1, u2, u3] 24)) W.heap.size #[v0, v1, v2, v3, u0, u1, u2, u3] 24 := Box.at rfl
  exact ⟨_, 2, rfl, by simp, by decide, IsL.cons (by simp) (hb.cell 0) (hb.cell 1) (hb.cell 2) (hb.cell 3) (h.up (below_a1 (Nat.le_refl _) _) (size_a1 (Nat.le_refl _) _)) (IsL.cons (by simp) (hb.cell 4) (hb.cell 5) (hb.cell 6) (hb.cell 7) (k.up (below_a1 (Nat.le_refl _) _) (size_a1 (Nat.le_refl _) _)) IsL.nil)⟩
theorem isS3 {W : World} {T U V : Tr} {v0 v1 v2 v3 u0 u1 u2 u3 w0 w1 w2 w3 : Value} (h : IsT W.heap.size W T (.agg #[v0, v1, v2, v3])) (k : IsT W.heap.size W U (.agg #[u0, u1, u2, u3])) (m : IsT W.heap.size W V (.agg #[w0, w1, w2, w3])) :
    IsS (W.alloc (.cells #[v0, v1, v2, v3, u0, u1, u2, u3, w0, w1, w2, w3] 24)).heap.size (W.alloc (.cells #[v0, v1, v2, v3, u0, u1, u2, u3, w0, w1, w2, w3] 24)) [T, U, V] (.slice (some ⟨W.heap.size, 0, none⟩) 3 3) := by
  have hb : Box (W.alloc (.cells #[v0, v1, v2, v3, u0, u1, u2, u3, w0, w1, w2, w3] 24)) W.heap.size #[v0, v1, v2, v3, u0, u1, u2, u3, w0, w1, w2, w3] 24 := Box.at rfl
  exact ⟨_, 3, rfl, by simp, by decide, IsL.cons (by simp) (hb.cell 0) (hb.cell 1) (hb.cell 2) (hb.cell 3) (h.up (below_a1 (Nat.le_refl _) _) (size_a1 (Nat.le_refl _) _)) (IsL.cons (by simp) (hb.cell 4) (hb.cell 5) (hb.cell 6) (hb.cell 7) (k.up (below_a1 (Nat.le_refl _) _) (size_a1 (Nat.le_refl _) _)) (IsL.cons (by simp) (hb.cell 8) (hb.cell 9) (hb.cell 10) (hb.cell 11) (m.up (below_a1 (Nat.le_refl _) _) (size_a1 (Nat.le_refl _) _)) IsL.nil))⟩

theorem up1 {W W' : World} {o : Obj} (h : Below (W.alloc o).heap.size (W.alloc o) W') : Below W.heap.size W W' := (below_a1 (Nat.le_refl _) o).trans (h.mono (size_a1 (Nat.le_refl _) o))

/-- A tree handed back, written out: its node's four parts. -/
def Made (T : Tr) (w : World) (e : Ending) (w' : World) : Prop := ∃ a c, e = .returned (.agg #[.int .i64 T.kind, .int .i64 T.num, .string T.str, .slice a T.subs.length c]) ∧ IsT w'.heap.size w' T (.agg #[.int .i64 T.kind, .int .i64 T.num, .string T.str, .slice a T.subs.length c]) ∧ Below w.heap.size w w'
theorem made_of {T : Tr} {w w' : World} {e : Ending} (h : ∃ v, e = .returned v ∧ IsT w'.heap.size w' T v ∧ Below w.heap.size w w') : Made T w e w' := by
  obtain ⟨v, rfl, h1, h2⟩ := h
  cases T with
  | node k n s l =>
  have h1' := h1
  obtain ⟨a, c, rfl, _⟩ := h1'.open
  exact ⟨a, c, rfl, h1, h2⟩
theorem mkV (n : Int) (hn : okI n) (w : World) : Calls Tryz.prog 19 #[.int .i64 n] w fun e w' => ∃ a c, e = .returned (.agg #[.int .i64 1, .int .i64 n, .string emp, .slice a 0 c]) ∧ IsT w'.heap.size w' (tV n) (.agg #[.int .i64 1, .int .i64 n, .string emp, .slice a 0 c]) ∧ Below w.heap.size w w' :=
  (lawV_any n hn w).mono fun _ _ h => made_of h
theorem mkA (s : ByteArray) (hs : s.size ≤ maxLen) (w : World) : Calls Tryz.prog 20 #[.string s] w fun e w' => ∃ a c, e = .returned (.agg #[.int .i64 3, .int .i64 0, .string s, .slice a 0 c]) ∧ IsT w'.heap.size w' (tA s) (.agg #[.int .i64 3, .int .i64 0, .string s, .slice a 0 c]) ∧ Below w.heap.size w w' :=
  (lawA_any s hs w).mono fun _ _ h => made_of h
theorem mkF (s : ByteArray) (hs : s.size ≤ maxLen) (l : List Tr) (m : Nat) (hm : l.length = m) (v : Value) (w : World) (hl : IsS w.heap.size w l v) : Calls Tryz.prog 18 #[.string s, v] w fun e w' => ∃ a c, e = .returned (.agg #[.int .i64 5, .int .i64 0, .string s, .slice a m c]) ∧ IsT w'.heap.size w' (tF s l) (.agg #[.int .i64 5, .int .i64 0, .string s, .slice a m c]) ∧ Below w.heap.size w w' := by
  subst hm
  exact (lawF_any s hs l v w hl).mono fun _ _ h => made_of h

theorem sane_size (v : Value) (w : World) (h : IsT w.heap.size w sX v) : Calls Tryz.prog 21 #[v] w fun e w' => e = .returned (.tuple #[.int .i64 5, .int .i64 3]) ∧ Below w.heap.size w w' := size_any sX v w h (by decide) (by decide)
theorem sane_cmp (v u : Value) (w : World) (h : IsT w.heap.size w sC1 v) (k : IsT w.heap.size w sC2 u) : Calls Tryz.prog 6 #[v, u] w fun e w' => e = .returned (.tuple #[.int .i64 (-1), .int .i64 0]) ∧ Below w.heap.size w w' := by
  have := compare_any sC1 sC2 v u w h k (by decide) (by decide)
  rw [isB_C1, isB_C2, ord_C] at this
  exact this
theorem sane_paths (v : Value) (w : World) (h : IsT w.heap.size w sX v) : Calls Tryz.prog 22 #[v] w fun e w' => ∃ u, e = .returned (.tuple #[u, .int .i64 0]) ∧ RdNN w'.heap.size w' [[], [0], [1], [1, 0], [1, 1]] u ∧ Below w.heap.size w w' := by
  refine (Paths_any sX v w h (by decide)).mono ?_
  rintro e w' ⟨hB, hh⟩
  rw [isB_X, paths_X] at hh
  obtain ⟨u, rfl, hn⟩ := hh
  exact ⟨u, rfl, hn.rd, hB⟩
theorem sane_subst (v u : Value) (w : World) (h : IsT w.heap.size w sS v) (k : IsS w.heap.size w sL u) : Calls Tryz.prog 23 #[v, u] w fun e w' => ∃ a c, e = .returned (.tuple #[.agg #[.int .i64 5, .int .i64 0, .string sf, .slice a 2 c], .int .i64 0]) ∧ IsT w'.heap.size w' sR (.agg #[.int .i64 5, .int .i64 0, .string sf, .slice a 2 c]) ∧ Below w.heap.size w w' := by
  obtain ⟨a, c, rfl, h1, h2, h3⟩ := k
  refine (subst_any sS sL v a c w h (by decide) (by decide) h1 h2 h3 (by decide)).mono ?_
  rintro e w' ⟨v', rfl, hP, hB⟩
  have e1 : substE sS sL = 0 := by rw [substE, isB_S, subOk_L, sub_S, fits_R]; rfl
  have e2 : substV sS sL = sR := by rw [substV, isB_S, subOk_L, sub_S, fits_R]; rfl
  rw [e1]
  rw [e2] at hP
  have hT := New.toT hP
  have hP' := hP
  obtain ⟨a', c', rfl, _⟩ := (show IsP _ w' (.node 5 0 sf [tF sg [tV 1], tA sa]) v' from hP').open
  exact ⟨a', c', rfl, hT, hB⟩
theorem sane_match1 (v u : Value) (w : World) (h : IsT w.heap.size w sP v) (k : IsT w.heap.size w sT1 u) : Calls Tryz.prog 26 #[v, u] w fun e w' => ∃ x, e = .returned (.tuple #[x, .bool true, .int .i64 0]) ∧ IsS w'.heap.size w' [tA sa] x ∧ Below w.heap.size w w' := by
  refine (Match_any sP sT1 v u w h k (by decide) (by decide)).mono ?_
  rintro e w' ⟨hB, hh⟩
  rw [match_1] at hh
  obtain ⟨x, rfl, hx⟩ := hh
  exact ⟨x, rfl, hx.toS (fun b hb => hb.2), hB⟩
theorem sane_match2 (v u : Value) (w : World) (h : IsT w.heap.size w sP v) (k : IsT w.heap.size w sC2 u) : Calls Tryz.prog 26 #[v, u] w fun e w' => e = .returned (.tuple #[.slice none 0 0, .bool false, .int .i64 0]) ∧ Below w.heap.size w w' := by
  refine (Match_any sP sC2 v u w h k (by decide) (by decide)).mono ?_
  rintro e w' ⟨hB, hh⟩
  rw [match_2, isB_P, isB_C2] at hh
  exact ⟨hh, hB⟩
theorem sane_general (v u : Value) (w : World) (h : IsT w.heap.size w sG1 v) (k : IsT w.heap.size w sG2 u) (htab : Lib.TabBelow Tryz.prog w.heap.size w "internal/strconv.uint64pow10" .u64 Lib.pow10Tab) : Calls Tryz.prog 27 #[v, u] w fun e w' => ∃ a c, e = .returned (.tuple #[.agg #[.int .i64 5, .int .i64 0, .string sf, .slice a 3 c], .int .i64 0]) ∧ IsT w'.heap.size w' sG (.agg #[.int .i64 5, .int .i64 0, .string sf, .slice a 3 c]) ∧ Below w.heap.size w w' := by
  refine (General_any sG1 sG2 v u w h k (by decide) (by decide) htab).mono ?_
  rintro e w' ⟨hB, x, rfl, hP⟩
  have e1 : genR sG1 sG2 = sG := by rw [genR, isB_G1, isB_G2, gen_12]; rfl
  rw [e1] at hP
  rw [isB_G1, isB_G2]
  have hT := New.toT hP
  obtain ⟨a', c', rfl, _⟩ := (show IsP _ w' (.node 5 0 sf [tV 0, tF sg [tV 0], tV 1]) x from hP).open
  exact ⟨a', c', rfl, hT, hB⟩
theorem sane_normal (u : Value) (w : World) (k : IsS w.heap.size w sN u) : Calls Tryz.prog 28 #[u] w fun e w' => ∃ x y, e = .returned (.tuple #[x, y, .int .i64 0]) ∧ IsS w'.heap.size w' sM x ∧ RdN w'.heap.size w' [2, 0] y ∧ Below w.heap.size w w' := by
  obtain ⟨a, c, rfl, h1, h2, h3⟩ := k
  refine (Normal_any sN a c w (by decide) h3 (by decide)).mono ?_
  rintro e w' ⟨hB, hh⟩
  have e1 : togB sN = true := by
    have : sN.all isB = true := by simp [sN, isB_N1, isB_N2]
    rw [togB, this]; decide
  rw [e1, norm_N, vars_N] at hh
  obtain ⟨x, y, rfl, hx, hy⟩ := hh
  exact ⟨x, y, rfl, hx.toS (fun b hb => hb.2), hy.rd, hB⟩
theorem sane_check (w : World) : Calls Tryz.prog 30 #[.agg #[.int .i64 0, .int .i64 0, .string ⟨#[]⟩, .slice none 0 0]] w fun e w' => e = .returned (.int .i64 3) ∧ Below w.heap.size w w' := by
  have := check_any zeroTr _ w (IsP.toT (fun _ h => h) _ _ (zero_isP (· < w.heap.size) w)) (by decide)
  rw [isB_zero] at this
  exact this
theorem sane_same (T : Tr) (v u : Value) (w : World) (h : IsT w.heap.size w T v) (k : IsT w.heap.size w T u) : Calls Tryz.prog 25 #[v, u] w fun e w' => e = .returned (.bool true) ∧ Below w.heap.size w w' := by
  have := refSame_any T T v u w h k
  rw [show eqT T T = true by simp [eqT]] at this
  exact this
theorem sane_all (l : List Tr) (v u : Value) (w : World) (h : IsS w.heap.size w l v) (k : IsS w.heap.size w l u) : Calls Tryz.prog 29 #[v, u] w fun e w' => e = .returned (.bool true) ∧ Below w.heap.size w w' := by
  have := refSameAll l l v u w h k
  rw [show eqLT l l = true by simp [eqLT]] at this
  exact this
theorem sane_eqN (l : List Int) (v u : Value) (w : World) (h : RdN w.heap.size w l v) (k : RdN w.heap.size w l u) : Calls Tryz.prog 12 #[v, u] w fun e w' => e = .returned (.bool true) ∧ Below w.heap.size w w' := by
  have := equalN_any l l v u w h k
  rw [decide_eq_true rfl] at this
  exact this
theorem sane_eqNN (l : List (List Int)) (v u : Value) (w : World) (h : RdNN w.heap.size w l v) (k : RdNN w.heap.size w l u) : Calls Tryz.prog 24 #[v, u, .func (.func 12) #[] #[]] w fun e w' => e = .returned (.bool true) ∧ Below w.heap.size w w' := by
  have := equalNN_any l l v u w h k
  rw [decide_eq_true rfl] at this
  exact this
end Go.Proofs.YtdigiaigbcfccaaGreatDoor
