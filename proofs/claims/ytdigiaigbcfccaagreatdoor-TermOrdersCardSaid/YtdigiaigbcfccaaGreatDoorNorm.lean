/- Lists of terms whose variables are numbered anew. No program is named here. -/
import Derived.Test.YtdigiaigbcfccaaGreatDoorSbs
namespace Go.Proofs.YtdigiaigbcfccaaGreatDoor
open Go.RowKit Go

theorem varsP_append (S : List Int) (xs ys : List (Int × Tr)) : varsP S (xs ++ ys) = varsP (varsP S xs) ys := by simp [varsP]
theorem varsL_pre : ∀ (l : List Tr) (S : List Int), varsL S l = varsP S (preL 1 l)
  | [], _ => rfl
  | t :: ts, S => by
    rw [preL, varsP_append, ← varsL_pre ts]
    rfl
theorem varsL_mem {l : List Tr} (h : goodL l = true) {y : Int} : y ∈ varsL [] l ↔ occL y l := by
  rw [varsL_pre, varsP_mem, preL_occ l 1 h]; simp
theorem varsL_nodup (l : List Tr) : (varsL [] l).Nodup := by
  rw [varsL_pre]; exact varsP_nodup _ _ List.nodup_nil
theorem occL_mem {x : Int} {t : Tr} : ∀ {l : List Tr}, t ∈ l → occ x t → occL x l
  | a :: l, h, hx => by
    rcases List.mem_cons.1 h with rfl | h
    · exact .inl hx
    · exact .inr (occL_mem h hx)
theorem renL_agree {f g : Int → Int} {l : List Tr} (h : goodL l = true) (hfg : ∀ x, occL x l → f x = g x) : renL f l = renL g l := by
  rw [← sbsL_ren f l h, ← sbsL_ren g l h]
  exact (sbsL_eq l).2 fun x hx => by rw [hfg x hx]
/-- The variables of a list whose variables are named otherwise. -/
theorem varsL_ren {l : List Tr} (h : goodL l = true) (f : Int → Int) (hf : ∀ x y, x ∈ varsL [] l → y ∈ varsL [] l → f x = f y → x = y) : varsL [] (renL f l) = (varsL [] l).map f := by
  have hx : ∀ x, x ∈ preL 1 l → x.2.kind = 1 → x.2.num ∈ varsL [] l := fun x hx hk => (varsL_mem h).2 ((preL_occ l 1 h).1 ⟨x, hx, hk, rfl⟩)
  have := varsP_ren f (varsL [] l) hf (preL 1 l) [] hx (fun y hy => by simp at hy)
  rw [varsL_pre, preL_ren]
  rw [varsL_pre l]
  exact this
theorem normT_ren (l : List Tr) : normT l = renL (numV (varsL [] l)) l := (renL_map _ l).symm
/-- Numbered anew, a list whose variables are named otherwise is the same. -/
theorem normT_other {l : List Tr} (h : goodL l = true) (f : Int → Int) (hf : ∀ x y, x ∈ varsL [] l → y ∈ varsL [] l → f x = f y → x = y) : normT (renL f l) = normT l := by
  rw [normT_ren, normT_ren, varsL_ren h f hf, renL_renL]
  refine renL_agree h fun x hx => ?_
  have hm := (varsL_mem h).2 hx
  rw [numV_idx (nodup_map f hf (varsL_nodup l)) (List.mem_map_of_mem hm), numV_idx (varsL_nodup l) hm, idxOf_map f hf hm]
theorem numV_inj (l : List Tr) : ∀ x y, x ∈ varsL [] l → y ∈ varsL [] l → numV (varsL [] l) x = numV (varsL [] l) y → x = y := fun x y hx hy e => by
  rw [numV_idx (varsL_nodup l) hx, numV_idx (varsL_nodup l) hy] at e
  have h1 := List.idxOf_lt_length_of_mem hx
  have h2 := List.idxOf_lt_length_of_mem hy
  have e1 : (varsL [] l)[(varsL [] l).idxOf x] = x := List.getElem_idxOf h1
  have e2 : (varsL [] l)[(varsL [] l).idxOf y] = y := List.getElem_idxOf h2
  rw [← e1, ← e2]
  congr 1
  omega
/-- A normal list stays as it is. -/
theorem normT_normT {l : List Tr} (h : goodL l = true) : normT (normT l) = normT l := by
  rw [normT_ren l]
  rw [normT_other h _ (numV_inj l), normT_ren]
theorem normT_names {l : List Tr} (h : goodL l = true) : varsL [] (normT l) = (varsL [] l).map (numV (varsL [] l)) := by
  rw [normT_ren, varsL_ren h _ (numV_inj l)]
theorem normT_name {l : List Tr} (h : goodL l = true) {i : Nat} (hi : i < (varsL [] l).length) : (varsL [] (normT l))[i]? = some (i : Int) := by
  rw [normT_names h, List.getElem?_map, List.getElem?_eq_getElem hi, Option.map_some, numV_idx (varsL_nodup l) (List.getElem_mem hi)]
  rw [(varsL_nodup l).idxOf_getElem i hi]
/-- What Normal returns leads back. -/
theorem back_sbs {l : List Tr} (h : goodL l = true) (hs : (varsL [] l).length ≤ 100000) {t : Tr} (ht : t ∈ l) (hg : t.good = true) : subT ((varsL [] l).map tV) (renT (numV (varsL [] l)) t) = t := by
  have hgr : (renT (numV (varsL [] l)) t).good = true := by
    rw [← sbs_ren _ t hg]
    refine sbs_good t hg fun x hx => ?_
    have hm := (varsL_mem h).2 (occL_mem ht hx)
    rw [numV_idx (varsL_nodup l) hm]
    have := List.idxOf_lt_length_of_mem hm
    exact good_tV (by omega) (by omega)
  rw [subT_sbs _ _ hgr, ← sbs_ren _ t hg, sbs_sbs]
  refine Eq.trans ((sbs_eq t).2 fun x hx => ?_) (sbs_id hg)
  have hm := (varsL_mem h).2 (occL_mem ht hx)
  have hlt := List.idxOf_lt_length_of_mem hm
  show sbs _ (tV (numV (varsL [] l) x)) = tV x
  rw [numV_idx (varsL_nodup l) hm, tV, sbs, if_pos rfl, sgS]
  rw [if_pos (by simp [putsB, hlt, List.getD, tV, Tr.kind])]
  simp [List.getD, hlt]
end Go.Proofs.YtdigiaigbcfccaaGreatDoor

/- Composition of substitutions; variables that are all greater. No program is named here. -/
namespace Go.Proofs.YtdigiaigbcfccaaGreatDoor
open Go.RowKit Go

def isVarB (t : Tr) (i : Int) : Bool := decide (t.kind = 1) && decide (t.num = i)
/-- What stands in a composition in the place of a variable. -/
def cmpE (a b : List Tr) (i : Nat) : Tr := if isVarB (subT b (sgS a i)) i then zeroTr else subT b (sgS a i)
def compT (a b : List Tr) : List Tr := (List.range (max a.length b.length)).map (cmpE a b)
def compFit (a b : List Tr) : Bool := a.all (fun t => fitsB (subT b t))
def compE (a b : List Tr) : Int := if subOkB a && subOkB b then (if compFit a b then 0 else 2) else 1
theorem good_isVar {t : Tr} {i : Int} (h : t.good = true) (hv : isVarB t i = true) : t = tV i := by
  cases t with
  | node k n s l =>
  rw [isVarB, Bool.and_eq_true] at hv
  obtain ⟨h1, h2⟩ := hv
  replace h1 : k = 1 := of_decide_eq_true h1
  replace h2 : n = i := of_decide_eq_true h2
  subst h1 h2
  obtain ⟨rfl, rfl, _⟩ := good_var h
  rfl
theorem sgS_far {l : List Tr} {n : Int} (h : (l.length : Int) ≤ n) : sgS l n = tV n := by
  rw [sgS, if_neg]
  intro hp
  simp only [putsB, Bool.and_eq_true, decide_eq_true_eq] at hp
  omega
theorem isB_tV {n : Int} (h0 : 0 ≤ n) (h1 : n < 100000) : isB (tV n) = true := isB_mk (good_V h0 h1) (by simp [tV, Tr.size, sizeL]) (by simp [tV, Tr.deep, deepL])
theorem sgS_isB {l : List Tr} (hl : subOkB l = true) {n : Int} (h0 : 0 ≤ n) (h1 : n < 100000) : isB (sgS l n) = true := by
  unfold sgS
  split
  · rename_i h
    have hp := h
    simp only [putsB, Bool.and_eq_true, decide_eq_true_eq] at hp
    rcases subOk_mem hl (putsB_mem h h0) with hf | hf
    · exact absurd (free_size hf).2 hp.2
    · exact hf
  · exact isB_tV h0 h1
theorem subOk_len {l : List Tr} (h : subOkB l = true) : l.length ≤ 100000 := by
  simp only [subOkB, Bool.and_eq_true, decide_eq_true_eq] at h
  exact h.1
theorem subT_good {l : List Tr} (hl : subOkB l = true) {T : Tr} (hT : T.good = true) : (subT l T).good = true := by
  rw [subT_sbs l T hT]
  exact sbs_good T hT fun x hx => sgS_good hl (occ_range T x hT hx).1 (occ_range T x hT hx).2
theorem comp_good {a b : List Tr} (ha : subOkB a = true) (hb : subOkB b = true) {i : Int} (h0 : 0 ≤ i) (h1 : i < 100000) : (subT b (sgS a i)).good = true := subT_good hb (sgS_good ha h0 h1)
theorem compT_length (a b : List Tr) : (compT a b).length = max a.length b.length := by simp [compT]
theorem compT_get (a b : List Tr) {i : Nat} (h : i < max a.length b.length) : (compT a b).getD i default = cmpE a b i := by
  simp [compT, List.getD, h]
/-- What a composition puts in the place of a variable. -/
theorem sgS_comp {a b : List Tr} (ha : subOkB a = true) (hb : subOkB b = true) {x : Int} (h0 : 0 ≤ x) (h1 : x < 100000) : sgS (compT a b) x = sbs (sgS b) (sgS a x) := by
  have hg := sgS_good ha h0 h1
  rw [← subT_sbs b _ hg]
  have hgg := comp_good ha hb h0 h1
  obtain ⟨i, rfl⟩ := Int.eq_ofNat_of_zero_le h0
  by_cases hi : i < max a.length b.length
  · rw [sgS]
    have hD : (compT a b).getD ((i : Int)).toNat default = cmpE a b i := by rw [Int.toNat_natCast]; exact compT_get a b hi
    cases hv : isVarB (subT b (sgS a i)) i with
    | true =>
      have hz : cmpE a b i = zeroTr := by rw [cmpE, if_pos hv]
      rw [if_neg (fun hp => by
        simp only [putsB, Bool.and_eq_true, decide_eq_true_eq, hD, hz] at hp
        exact hp.2 rfl)]
      exact (good_isVar hgg hv).symm
    | false =>
      have hz : cmpE a b i = subT b (sgS a i) := by rw [cmpE, if_neg (by simp [hv])]
      rw [if_pos (by
        simp only [putsB, Bool.and_eq_true, decide_eq_true_eq, hD, hz, compT_length]
        exact ⟨⟨trivial, by omega⟩, good_kind hgg⟩), hD, hz]
  · rw [sgS_far (by rw [compT_length]; omega), sgS_far (l := a) (by omega), subT_sbs b _ (good_V h0 h1)]
    rw [tV, sbs, if_pos rfl, sgS_far (by omega)]
    rfl
theorem subT_comp {a b : List Tr} (ha : subOkB a = true) (hb : subOkB b = true) (_hc : subOkB (compT a b) = true) {T : Tr} (hT : T.good = true) : subT b (subT a T) = subT (compT a b) T := by
  rw [subT_sbs b _ (subT_good ha hT), subT_sbs a T hT, subT_sbs _ T hT, sbs_sbs]
  exact (sbs_eq T).2 fun x hx => (sgS_comp ha hb (occ_range T x hT hx).1 (occ_range T x hT hx).2).symm
theorem fits_isB {T : Tr} (h : isB T = true) : fitsB T = true := by
  have := isB_is h
  simp [fitsB, this.2.1, this.2.2]
theorem zero_free : zeroTr.free = true := by simp [zeroTr, Tr.free, freeB, emp_nil]
theorem sgS_mem {a : List Tr} {i : Nat} (hi : i < a.length) (hk : (a[i]).kind ≠ 0) : sgS a i = a[i] := by
  rw [sgS, if_pos (by simp [putsB, hi, hk])]
  simp [hi]
theorem sub_var {b : List Tr} (_hb : subOkB b = true) {n : Int} (h0 : 0 ≤ n) (h1 : n < 100000) : subT b (tV n) = sgS b n := by
  rw [subT_sbs b _ (good_V h0 h1), tV, sbs, if_pos rfl]
theorem compE_elt {a b : List Tr} (ha : subOkB a = true) (hb : subOkB b = true) (hf : compFit a b = true) {i : Nat} (hi : i < max a.length b.length) : isB (subT b (sgS a i)) = true := by
  have la := subOk_len ha
  have lb := subOk_len hb
  have hg := comp_good ha hb (i := i) (by omega) (by omega)
  have hfit : fitsB (subT b (sgS a i)) = true := by
    by_cases hp : putsB a 1 i = true
    · rw [sgS, if_pos hp]
      exact List.all_eq_true.1 hf _ (putsB_mem hp (by omega))
    · rw [sgS, if_neg hp, sub_var hb (by omega) (by omega)]
      exact fits_isB (sgS_isB hb (by omega) (by omega))
  simp only [fitsB, Bool.and_eq_true, decide_eq_true_eq] at hfit
  exact isB_mk hg hfit.1 hfit.2
theorem compT_ok {a b : List Tr} (ha : subOkB a = true) (hb : subOkB b = true) (hf : compFit a b = true) : subOkB (compT a b) = true := by
  have la := subOk_len ha
  have lb := subOk_len hb
  simp only [subOkB, Bool.and_eq_true, decide_eq_true_eq, compT_length]
  refine ⟨by omega, List.all_eq_true.2 fun t ht => ?_⟩
  obtain ⟨i, hi, rfl⟩ := List.mem_map.1 ht
  rw [List.mem_range] at hi
  unfold cmpE
  split
  · simp [zero_free]
  · simp [compE_elt ha hb hf hi]
theorem comp_assoc {l m n : List Tr} (hl : subOkB l = true) (hm : subOkB m = true) (hn : subOkB n = true) (_h1 : subOkB (compT l m) = true) (h2 : subOkB (compT m n) = true) : compT (compT l m) n = compT l (compT m n) := by
  have ll := subOk_len hl
  have lm := subOk_len hm
  have ln := subOk_len hn
  show (List.range (max (compT l m).length n.length)).map (cmpE (compT l m) n) = (List.range (max l.length (compT m n).length)).map (cmpE l (compT m n))
  rw [compT_length, compT_length, show max (max l.length m.length) n.length = max l.length (max m.length n.length) by omega]
  refine List.map_congr_left fun i hi => ?_
  rw [List.mem_range] at hi
  have hg := sgS_good hl (n := i) (by omega) (by omega)
  have e : subT n (sgS (compT l m) i) = subT (compT m n) (sgS l i) := by
    rw [sgS_comp hl hm (by omega) (by omega), ← subT_sbs m _ hg, subT_comp hm hn h2 hg]
  rw [cmpE, cmpE, e]
/-- What can be composed the one way can be composed the other way. -/
theorem comp_fit {l m n : List Tr} (hl : subOkB l = true) (hm : subOkB m = true) (hn : subOkB n = true) (_f1 : compFit l m = true) (f2 : compFit (compT l m) n = true) (h2 : subOkB (compT m n) = true) : compFit l (compT m n) = true := by
  have ll := subOk_len hl
  have lm := subOk_len hm
  refine List.all_eq_true.2 fun t ht => ?_
  rcases subOk_mem hl ht with hfr | hb
  · cases t with
    | node k x s ts =>
    simp only [Tr.free, freeB, Bool.and_eq_true, decide_eq_true_eq] at hfr
    obtain ⟨⟨⟨rfl, rfl⟩, _⟩, h0⟩ := hfr
    obtain rfl := List.length_eq_zero_iff.1 h0
    rw [subT, if_neg (by simp [putsB])]
    rfl
  · have hg := (isB_is hb).1
    obtain ⟨i, hi, rfl⟩ := List.mem_iff_getElem.1 ht
    have hs := sgS_mem hi (good_kind hg)
    rw [← subT_comp hm hn h2 hg, ← hs]
    have hi' : i < max l.length m.length := by omega
    have hgg := comp_good hl hm (i := i) (by omega) (by omega)
    cases hv : isVarB (subT m (sgS l i)) i with
    | true =>
      rw [good_isVar hgg hv, sub_var hn (by omega) (by omega)]
      exact fits_isB (sgS_isB hn (by omega) (by omega))
    | false =>
      have hmem : subT m (sgS l i) ∈ compT l m := by
        refine List.mem_map.2 ⟨i, by simpa using hi', ?_⟩
        rw [cmpE, if_neg (by simp [hv])]
      exact List.all_eq_true.1 f2 _ hmem
/-- A substitution without terms. -/
theorem sub_nil {T : Tr} (hT : T.good = true) : subT [] T = T := by
  rw [subT_sbs [] T hT]
  refine Eq.trans ((sbs_eq T).2 fun x hx => ?_) (sbs_id hT)
  exact sgS_far (by have := (occ_range T x hT hx).1; simpa using this)

/-- The variables of a tree, n greater, are variables. -/
def shOk (n : Int) (T : Tr) : Bool := (preT 1 T).all fun x => !decide (x.2.kind = 1) || (decide (-x.2.num ≤ n) && decide (n < 100000 - x.2.num))
def shF (n : Int) (x : Int) : Int := wrap64 (x + n)
def shE (n : Int) (T : Tr) : Int := if isB T then (if shOk n T then 0 else 1) else 3
def shV (n : Int) (T : Tr) : Tr := if isB T && shOk n T then renT (shF n) T else zeroTr
theorem shF_eq {n x : Int} (h1 : -x ≤ n) (h2 : n < 100000 - x) (_h3 : 0 ≤ x) (_h4 : x < 100000) : shF n x = x + n := by
  unfold shF
  exact IntWalk.wrap64_in _ (by omega)
theorem shF_ok (n x : Int) : okI (shF n x) := by
  unfold shF okI wrap64
  omega
theorem shOk_occ {n : Int} {T : Tr} (hg : T.good = true) (h : shOk n T = true) {x : Int} (hx : occ x T) : -x ≤ n ∧ n < 100000 - x ∧ 0 ≤ x ∧ x < 100000 := by
  obtain ⟨y, hy, hk, rfl⟩ := (pre_occ T 1 hg).2 hx
  have := List.all_eq_true.1 h y hy
  simp only [hk, decide_true, Bool.not_true, Bool.false_or, Bool.and_eq_true, decide_eq_true_eq] at this
  exact ⟨this.1, this.2, occ_range T _ hg hx⟩
mutual
theorem ren_size (f : Int → Int) : ∀ T : Tr, (renT f T).size = T.size ∧ (renT f T).deep = T.deep
  | .node k n s l => by
    have := ren_sizeL f l
    simp only [renT, Tr.size, Tr.deep, this.1, this.2]
    exact ⟨trivial, trivial⟩
theorem ren_sizeL (f : Int → Int) : ∀ l : List Tr, sizeL (renL f l) = sizeL l ∧ deepL (renL f l) = deepL l
  | [] => ⟨rfl, rfl⟩
  | t :: ts => by
    have h1 := ren_size f t
    have h2 := ren_sizeL f ts
    simp only [renL, sizeL, deepL, h1.1, h1.2, h2.1, h2.2]
    exact ⟨trivial, trivial⟩
end
theorem sh_isB {n : Int} {T : Tr} (h : isB T = true) (hs : shOk n T = true) : isB (renT (shF n) T) = true := by
  have hi := isB_is h
  refine isB_mk ?_ (by rw [(ren_size _ T).1]; exact hi.2.1) (by rw [(ren_size _ T).2]; exact hi.2.2)
  rw [← sbs_ren _ T hi.1]
  refine sbs_good T hi.1 fun x hx => ?_
  have := shOk_occ hi.1 hs hx
  rw [shF_eq this.1 this.2.1 this.2.2.1 this.2.2.2]
  exact good_V (by omega) (by omega)
end Go.Proofs.YtdigiaigbcfccaaGreatDoor

/- Lists of terms, numbered anew: what stays within the limits. No program is named here. -/
namespace Go.Proofs.YtdigiaigbcfccaaGreatDoor
open Go.RowKit Go

theorem occL_ex {x : Int} : ∀ {l : List Tr}, occL x l → ∃ t, t ∈ l ∧ occ x t
  | t :: ts, h => by
    rcases h with h | h
    · exact ⟨t, by simp, h⟩
    · obtain ⟨u, hu, ho⟩ := occL_ex h
      exact ⟨u, by simp [hu], ho⟩
theorem tog_parts {l : List Tr} (h : togB l = true) : (∀ t, t ∈ l → isB t = true) ∧ sizeL l ≤ 4000 ∧ goodL l = true := by
  simp only [togB, Bool.and_eq_true, decide_eq_true_eq] at h
  refine ⟨fun t ht => List.all_eq_true.1 h.1 t ht, h.2, ?_⟩
  rw [goodL_all]
  exact List.all_eq_true.2 fun t ht => (isB_is (List.all_eq_true.1 h.1 t ht)).1
theorem tog_mk {l : List Tr} (h1 : ∀ t, t ∈ l → isB t = true) (h2 : sizeL l ≤ 4000) : togB l = true := by
  simp only [togB, Bool.and_eq_true, decide_eq_true_eq]
  exact ⟨List.all_eq_true.2 h1, h2⟩
theorem vars_len {l : List Tr} (h : togB l = true) : (varsL [] l).length ≤ 4000 := Nat.le_trans (varsL_length l) (tog_parts h).2.1
theorem vars_range {l : List Tr} (h : togB l = true) {x : Int} (hx : x ∈ varsL [] l) : 0 ≤ x ∧ x < 100000 :=
  occL_range l x (tog_parts h).2.2 ((varsL_mem (tog_parts h).2.2).1 hx)
theorem numV_range {l : List Tr} (_h : togB l = true) {x : Int} (hx : x ∈ varsL [] l) : 0 ≤ numV (varsL [] l) x ∧ numV (varsL [] l) x < (varsL [] l).length := by
  rw [numV_idx (varsL_nodup l) hx]
  have := List.idxOf_lt_length_of_mem hx
  omega
theorem ren_isB {f : Int → Int} {T : Tr} (h : isB T = true) (hf : ∀ x, occ x T → 0 ≤ f x ∧ f x < 100000) : isB (renT f T) = true := by
  have hi := isB_is h
  refine isB_mk ?_ (by rw [(ren_size f T).1]; exact hi.2.1) (by rw [(ren_size f T).2]; exact hi.2.2)
  rw [← sbs_ren f T hi.1]
  exact sbs_good T hi.1 fun x hx => good_V (hf x hx).1 (hf x hx).2
/-- Numbered anew, a list stays one. -/
theorem normT_tog {l : List Tr} (h : togB l = true) : togB (normT l) = true := by
  obtain ⟨h1, h2, h3⟩ := tog_parts h
  have hl := vars_len h
  refine tog_mk (fun t ht => ?_) (by rw [normT_ren, (ren_sizeL _ l).1]; exact h2)
  rw [normT] at ht
  obtain ⟨u, hu, rfl⟩ := List.mem_map.1 ht
  refine ren_isB (h1 u hu) fun x hx => ?_
  have := numV_range h ((varsL_mem h3).2 (occL_mem hu hx))
  omega
theorem back_ok {l : List Tr} (h : togB l = true) : subOkB ((varsL [] l).map tV) = true := by
  have := vars_len h
  simp only [subOkB, Bool.and_eq_true, decide_eq_true_eq, List.length_map]
  refine ⟨by omega, List.all_eq_true.2 fun t ht => ?_⟩
  obtain ⟨x, hx, rfl⟩ := List.mem_map.1 ht
  have := vars_range h hx
  simp [isB_tV this.1 this.2]
/-- What Subst makes of a list that was numbered anew, with its names. -/
theorem back_subst {l : List Tr} (h : togB l = true) {i : Nat} (hi : i < l.length) {X : Tr} (hX : renT (numV (varsL [] l)) l[i] = X) : isB X = true ∧ substE X ((varsL [] l).map tV) = 0 ∧ substV X ((varsL [] l).map tV) = l[i] := by
  subst hX
  obtain ⟨h1, h2, h3⟩ := tog_parts h
  have hm := List.getElem_mem hi
  have hb := h1 _ hm
  have hl := vars_len h
  have hX : isB (renT (numV (varsL [] l)) l[i]) = true := ren_isB hb fun x hx => by
    have := numV_range h ((varsL_mem h3).2 (occL_mem hm hx))
    omega
  have hs := back_sbs h3 (by omega) hm (isB_is hb).1
  rw [substE, substV, hX, back_ok h, hs, fits_isB hb]
  exact ⟨rfl, rfl, rfl⟩
theorem names_len {l : List Tr} (h : togB l = true) : (varsL [] (normT l)).length = (varsL [] l).length := by
  rw [normT_names (tog_parts h).2.2, List.length_map]
/-- Terms whose variables are all greater, numbered anew. -/
theorem shift_norm {l : List Tr} (h : togB l = true) {n : Int} (hs : l.all (shOk n) = true) : togB (renL (shF n) l) = true ∧ normT (renL (shF n) l) = normT l := by
  obtain ⟨h1, h2, h3⟩ := tog_parts h
  have hr : ∀ x, x ∈ varsL [] l → shF n x = x + n := fun x hx => by
    obtain ⟨t, ht, ho⟩ := occL_ex ((varsL_mem h3).1 hx)
    have := shOk_occ (isB_is (h1 t ht)).1 (List.all_eq_true.1 hs t ht) ho
    exact shF_eq this.1 this.2.1 this.2.2.1 this.2.2.2
  refine ⟨tog_mk (fun t ht => ?_) (by rw [(ren_sizeL _ l).1]; exact h2), normT_other h3 _ fun x y hx hy e => ?_⟩
  · rw [renL_map] at ht
    obtain ⟨u, hu, rfl⟩ := List.mem_map.1 ht
    exact sh_isB (h1 u hu) (List.all_eq_true.1 hs u hu)
  · rw [hr x hx, hr y hy] at e
    omega
end Go.Proofs.YtdigiaigbcfccaaGreatDoor

/- How often variables occur. No program is named here. -/
namespace Go.Proofs.YtdigiaigbcfccaaGreatDoor
open Go.RowKit Go

/-- A tree has no variables. -/
def grdB (T : Tr) : Bool := (preT 1 T).all fun x => !decide (x.2.kind = 1)
def isV (v : Int) (x : Int × Tr) : Bool := decide (x.2.kind = 1) && decide (x.2.num = v)
def isVr (x : Int × Tr) : Bool := decide (x.2.kind = 1)
def tmsP (v : Int) (xs : List (Int × Tr)) : Nat := xs.countP (isV v)
def tmsT (v : Int) (T : Tr) : Nat := tmsP v (preT 1 T)
mutual
/-- How many nodes are variables. -/
def lvT : Tr → Nat
  | .node k _ _ l => (if k = 1 then 1 else 0) + lvL l
def lvL : List Tr → Nat
  | [] => 0
  | t :: ts => lvT t + lvL ts
end
mutual
theorem lv_pre : ∀ (T : Tr) (d : Int), lvT T = (preT d T).countP isVr
  | .node k n s l, d => by
    rw [lvT, preT, List.countP_cons, lv_preL l (d + 1)]
    simp only [isVr, Tr.kind]
    by_cases hk : k = 1 <;> simp [hk] <;> omega
theorem lv_preL : ∀ (l : List Tr) (d : Int), lvL l = (preL d l).countP isVr
  | [], _ => rfl
  | t :: ts, d => by rw [lvL, preL, List.countP_append, lv_pre t d, lv_preL ts d]
end
theorem lvL_append (u v : List Tr) : lvL (u ++ v) = lvL u + lvL v := by
  induction u with
  | nil => simp [lvL]
  | cons t ts ih => simp only [List.cons_append, lvL, ih]; omega
theorem lvL_take {l : List Tr} {j : Nat} (h : j < l.length) : lvL (l.take (j + 1)) = lvL (l.take j) + lvT l[j] := by
  rw [List.take_succ_eq_append_getElem h, lvL_append]; simp [lvL]
mutual
theorem lv_le : ∀ T : Tr, lvT T ≤ T.size
  | .node k n s l => by
    have := lvL_le l
    simp only [lvT, Tr.size]
    split <;> omega
theorem lvL_le : ∀ l : List Tr, lvL l ≤ sizeL l
  | [] => Nat.le_refl _
  | t :: ts => by
    have := lv_le t
    have := lvL_le ts
    simp only [lvL, sizeL]
    omega
end
theorem tmsP_snoc (v : Int) (xs : List (Int × Tr)) (x : Int × Tr) : tmsP v (xs ++ [x]) = tmsP v xs + if isV v x then 1 else 0 := by
  simp [tmsP, List.countP_append, List.countP_cons]
theorem sum_add (vs : List Int) (f g : Int → Nat) : (vs.map fun v => f v + g v).sum = (vs.map f).sum + (vs.map g).sum := by
  induction vs with
  | nil => rfl
  | cons v vs ih => simp only [List.map_cons, List.sum_cons, ih]; omega
theorem sum_one {vs : List Int} (hn : vs.Nodup) {a : Int} (ha : a ∈ vs) : (vs.map fun v => if a = v then 1 else 0).sum = 1 := by
  induction vs with
  | nil => cases ha
  | cons v vs ih =>
    rw [List.nodup_cons] at hn
    simp only [List.map_cons, List.sum_cons]
    rcases List.mem_cons.1 ha with rfl | h
    · have h0 : (vs.map fun v => if a = v then 1 else 0).sum = 0 := by
        have : ∀ us : List Int, ¬ a ∈ us → (us.map fun v => if a = v then 1 else 0).sum = 0 := by
          intro us
          induction us with
          | nil => intro _; rfl
          | cons u us ih2 =>
            intro hu
            simp only [List.mem_cons, not_or] at hu
            simp only [List.map_cons, List.sum_cons, if_neg hu.1, ih2 hu.2]
        exact this vs hn.1
      rw [if_pos rfl, h0]
    · have hne : a ≠ v := fun e => hn.1 (e ▸ h)
      rw [if_neg hne, ih hn.2 h]
theorem sum_zero (vs : List Int) : (vs.map fun _ => 0).sum = 0 := by
  induction vs with
  | nil => rfl
  | cons v vs ih => simp only [List.map_cons, List.sum_cons, ih]
/-- Times adds up. -/
theorem tms_sum {vs : List Int} (hn : vs.Nodup) : ∀ xs : List (Int × Tr), (∀ x, x ∈ xs → x.2.kind = 1 → x.2.num ∈ vs) → (vs.map fun v => tmsP v xs).sum = xs.countP isVr
  | [], _ => by simp [tmsP]; exact sum_zero vs
  | x :: xs, h => by
    have ih := tms_sum hn xs fun y hy => h y (by simp [hy])
    have e : (fun v => tmsP v (x :: xs)) = fun v => tmsP v xs + if isV v x then 1 else 0 := by
      funext v
      simp [tmsP, List.countP_cons]
    rw [e, sum_add, ih, List.countP_cons]
    congr 1
    by_cases hk : x.2.kind = 1
    · have := sum_one hn (h x (by simp) hk)
      simp only [isV, isVr, hk, decide_true, Bool.true_and, decide_eq_true_eq, if_true]
      exact this
    · simp only [isV, isVr, hk, decide_false, Bool.false_and, Bool.false_eq_true, if_false]
      exact sum_zero vs
theorem tms_all {T : Tr} (h : T.good = true) : ((vars1 T).map fun v => tmsT v T).sum = lvT T := by
  rw [lv_pre T 1]
  exact tms_sum (vars1_nodup T) _ fun x hx hk => (vars1_mem h).2 ((pre_occ T 1 h).1 ⟨x, hx, hk, rfl⟩)
theorem tms_pos {T : Tr} (h : T.good = true) {v : Int} (hv : v ∈ vars1 T) : 1 ≤ tmsT v T := by
  obtain ⟨x, hx, hk, hn⟩ := (pre_occ T 1 h).2 ((vars1_mem h).1 hv)
  exact List.countP_pos_iff.2 ⟨x, hx, by simp [isV, hk, hn]⟩
theorem tms_le (v : Int) (T : Tr) : tmsT v T ≤ T.size := by
  have := List.countP_le_length (p := isV v) (l := preT 1 T)
  rwa [preT_length] at this
theorem grd_iff {T : Tr} (h : T.good = true) : grdB T = true ↔ vars1 T = [] := by
  constructor
  · intro hg
    refine List.eq_nil_iff_forall_not_mem.2 fun y hy => ?_
    obtain ⟨x, hx, hk, _⟩ := (pre_occ T 1 h).2 ((vars1_mem h).1 hy)
    have := List.all_eq_true.1 hg x hx
    simp [hk] at this
  · intro hv
    refine List.all_eq_true.2 fun x hx => ?_
    by_cases hk : x.2.kind = 1
    · have := (vars1_mem h).2 ((pre_occ T 1 h).1 ⟨x, hx, hk, rfl⟩)
      rw [hv] at this
      cases this
    · simp [hk]
end Go.Proofs.YtdigiaigbcfccaaGreatDoor
