/- The chapter's examples: what they are, and the contracts at them. -/
import Derived.Test.YtckoecmdaefoiaaDoorGeneral
import Derived.Test.YtckoecmdaefoiaaDoorEqL
import Derived.Test.YtckoecmdaefoiaaDoorMake
import Derived.Test.YtckoecmdaefoiaaDoorOrd
namespace Go.Proofs.YtckoecmdaefoiaaDoor
open Go.RowKit Go

def sa : ByteArray := ⟨#[97]⟩
def sb : ByteArray := ⟨#[98]⟩
def sc : ByteArray := ⟨#[99]⟩
def sf : ByteArray := ⟨#[102]⟩
def sg : ByteArray := ⟨#[103]⟩
def sdot : ByteArray := ⟨#[46]⟩
def snil : ByteArray := ⟨#[91, 93]⟩
def sX : Tr := tF sf [tV 0, tF sdot [tA sa, tA snil]]
def sC1 : Tr := tF sg [tA sa]
def sC2 : Tr := tF sf [tA sa, tA sb]
def sS : Tr := tF sf [tV 0, tV 1]
def sL : List Tr := [tF sg [tV 1], tA sa]
def sR : Tr := tF sf [tF sg [tV 1], tA sa]
def sP : Tr := tF sf [tV 0, tV 0]
def sT1 : Tr := tF sf [tA sa, tA sa]
def sG1 : Tr := tF sf [tA sa, tF sg [tA sa], tA sa]
def sG2 : Tr := tF sf [tA sb, tF sg [tA sb], tA sc]
def sG : Tr := tF sf [tV 0, tF sg [tV 0], tV 1]
def sN : List Tr := [tF sf [tV 2, tV 0], tV 2]
def sM : List Tr := [tF sf [tV 0, tV 1], tV 0]

theorem emp_nil : emp.toList = [] := by rw [emp, ByteArray.toList, ByteArray.toList.loop, if_neg (by decide)]; rfl
theorem good_V {n : Int} (h : 0 ≤ n) (h' : n < 100000) : (tV n).good = true := by simp [tV, Tr.good, goodL, nodeB, emp_nil, h, h']
theorem good_A {s : ByteArray} (h : nameB s = true) : (tA s).good = true := by simp [tA, Tr.good, goodL, nodeB, h]
theorem good_F {s : ByteArray} {l : List Tr} (h : nameB s = true) (hl : goodL l = true) (h1 : 1 ≤ l.length) (h2 : l.length ≤ 16) : (tF s l).good = true := by simp [tF, Tr.good, nodeB, h, hl, h1, h2]
theorem name_a : nameB sa = true := by decide
theorem name_b : nameB sb = true := by decide
theorem name_c : nameB sc = true := by decide
theorem name_f : nameB sf = true := by decide
theorem name_g : nameB sg = true := by decide
theorem name_dot : nameB sdot = true := by decide
theorem name_nil : nameB snil = true := by decide
theorem goodL_cons {t : Tr} {ts : List Tr} (h : t.good = true) (hs : goodL ts = true) : goodL (t :: ts) = true := by simp [goodL, h, hs]
theorem goodL_nil : goodL [] = true := rfl
theorem isB_mk {T : Tr} (h : T.good = true) (h1 : T.size ≤ 4000) (h2 : T.deep ≤ 600) : isB T = true := by rw [isB_good, h]; simp [h1, h2]
theorem isB_X : isB sX = true := isB_mk (good_F name_f (goodL_cons (good_V (by omega) (by omega)) (goodL_cons (good_F name_dot (goodL_cons (good_A name_a) (goodL_cons (good_A name_nil) goodL_nil)) (by simp) (by simp)) goodL_nil)) (by simp) (by simp)) (by decide) (by decide)
theorem isB_C1 : isB sC1 = true := isB_mk (good_F name_g (goodL_cons (good_A name_a) goodL_nil) (by simp) (by simp)) (by decide) (by decide)
theorem isB_C2 : isB sC2 = true := isB_mk (good_F name_f (goodL_cons (good_A name_a) (goodL_cons (good_A name_b) goodL_nil)) (by simp) (by simp)) (by decide) (by decide)
theorem isB_S : isB sS = true := isB_mk (good_F name_f (goodL_cons (good_V (by omega) (by omega)) (goodL_cons (good_V (by omega) (by omega)) goodL_nil)) (by simp) (by simp)) (by decide) (by decide)
theorem isB_gV : isB (tF sg [tV 1]) = true := isB_mk (good_F name_g (goodL_cons (good_V (by omega) (by omega)) goodL_nil) (by simp) (by simp)) (by decide) (by decide)
theorem isB_A : isB (tA sa) = true := isB_mk (good_A name_a) (by decide) (by decide)
theorem isB_P : isB sP = true := isB_mk (good_F name_f (goodL_cons (good_V (by omega) (by omega)) (goodL_cons (good_V (by omega) (by omega)) goodL_nil)) (by simp) (by simp)) (by decide) (by decide)
theorem isB_T1 : isB sT1 = true := isB_mk (good_F name_f (goodL_cons (good_A name_a) (goodL_cons (good_A name_a) goodL_nil)) (by simp) (by simp)) (by decide) (by decide)
theorem isB_G1 : isB sG1 = true := isB_mk (good_F name_f (goodL_cons (good_A name_a) (goodL_cons (good_F name_g (goodL_cons (good_A name_a) goodL_nil) (by simp) (by simp)) (goodL_cons (good_A name_a) goodL_nil))) (by simp) (by simp)) (by decide) (by decide)
theorem isB_G2 : isB sG2 = true := isB_mk (good_F name_f (goodL_cons (good_A name_b) (goodL_cons (good_F name_g (goodL_cons (good_A name_b) goodL_nil) (by simp) (by simp)) (goodL_cons (good_A name_c) goodL_nil))) (by simp) (by simp)) (by decide) (by decide)
theorem isB_zero : isB zeroTr = false := by rw [isB_good]; simp [zeroTr, Tr.good, nodeB]
theorem isB_N1 : isB (tF sf [tV 2, tV 0]) = true := isB_mk (good_F name_f (goodL_cons (good_V (by omega) (by omega)) (goodL_cons (good_V (by omega) (by omega)) goodL_nil)) (by simp) (by simp)) (by decide) (by decide)
theorem isB_N2 : isB (tV 2) = true := isB_mk (good_V (by omega) (by omega)) (by decide) (by decide)

theorem ord_C : ordT sC1 sC2 = -1 := by decide
theorem paths_X : pathsT sX = [[], [0], [1], [1, 0], [1, 1]] := by decide
theorem subOk_L : subOkB sL = true := by simp [subOkB, sL, isB_gV, isB_A]
theorem sub_S : subT sL sS = sR := by simp [sS, sL, sR, tF, tV, tA, subT, subL, putsB, Tr.kind]
theorem fits_R : fitsB sR = true := by decide
theorem match_1 : matchR sP sT1 = some [tA sa] := by
  rw [matchR, isB_P, isB_T1]
  rfl
theorem match_2 : matchR sP sC2 = none := by
  rw [matchR, isB_P, isB_C2]
  rfl
theorem text_bc : ¬ textT (tA sc) = textT (tA sb) := by
  simp only [tA, textT]
  intro h
  have h1 := List.append_cancel_left h
  have h2 := List.append_cancel_left h1
  have h3 := List.append_cancel_left h2
  have h4 := List.append_cancel_left h3
  revert h4
  decide
theorem gen_12 : (genT sG1 sG2 []).1 = sG := by
  have e1 : genT (tA sa) (tA sb) [] = (tV 0, [textT (tA sa) ++ textT (tA sb)]) := by
    rw [tA, genT, if_pos (.inr (by decide))]
    rfl
  have e2 : genT (tA sa) (tA sb) [textT (tA sa) ++ textT (tA sb)] = (tV 0, [textT (tA sa) ++ textT (tA sb)]) := by
    rw [tA, genT, if_pos (.inr (by decide))]
    simp [numK, addK, tV, tA]
  have e3 : genT (tA sa) (tA sc) [textT (tA sa) ++ textT (tA sb)] = (tV 1, [textT (tA sa) ++ textT (tA sb), textT (tA sa) ++ textT (tA sc)]) := by
    have hne : ¬ (textT (tA sa) ++ textT (tA sc)) ∈ [textT (tA sa) ++ textT (tA sb)] := by
      intro h
      rw [List.mem_singleton] at h
      exact text_bc (List.append_cancel_left h)
    show genT (.node 3 0 sa []) (tA sc) _ = _
    rw [genT, if_pos (.inr (by decide))]
    show (Tr.node 1 (numK _ (textT (tA sa) ++ textT (tA sc))) emp [], addK _ (textT (tA sa) ++ textT (tA sc))) = _
    rw [numK, addK, if_neg hne, if_neg hne]
    rfl
  have e4 : genT (tF sg [tA sa]) (tF sg [tA sb]) [textT (tA sa) ++ textT (tA sb)] = (tF sg [tV 0], [textT (tA sa) ++ textT (tA sb)]) := by
    rw [tF, genT, if_neg (by decide)]
    simp only [Tr.subs, tF, genL, e2]
  show (genT (.node 5 0 sf [tA sa, tF sg [tA sa], tA sa]) sG2 []).1 = sG
  rw [genT, if_neg (by decide)]
  show Tr.node 5 0 sf (genL [tA sa, tF sg [tA sa], tA sa] [tA sb, tF sg [tA sb], tA sc] []).1 = sG
  simp only [genL, e1, e3, e4]
  rfl
theorem norm_N : normT sN = sM := by rfl
theorem vars_N : varsL [] sN = [2, 0] := by rfl
end Go.Proofs.YtckoecmdaefoiaaDoor
