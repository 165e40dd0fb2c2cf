/- What Subst makes of a tree, as a substitution; and what the laws of substitutions call. -/
import Derived.Test.YtdigiaigbcfccaaGreatDoorVariant
import Derived.Test.YtdigiaigbcfccaaGreatDoorSane
namespace Go.Proofs.YtdigiaigbcfccaaGreatDoor
open Go.RowKit Go

/-- What stands in the place of a variable. -/
def sgS (l : List Tr) (n : Int) : Tr := if putsB l 1 n then l.getD n.toNat default else tV n
mutual
theorem subT_sbs (l : List Tr) : ∀ T : Tr, T.good = true → subT l T = sbs (sgS l) T
  | .node k n s ts, h => by
    rw [subT, sbs]
    by_cases hk : k = 1
    · subst hk
      obtain ⟨rfl, rfl, _⟩ := good_var h
      rw [if_pos rfl, sgS]
      split <;> rfl
    · have hp : putsB l k n = false := by simp [putsB, hk]
      simp only [Tr.good, Bool.and_eq_true] at h
      rw [if_neg (by simp [hp]), if_neg hk, subL_sbs l ts h.2]
theorem subL_sbs (l : List Tr) : ∀ ts : List Tr, goodL ts = true → subL l ts = sbsL (sgS l) ts
  | [], _ => rfl
  | t :: ts, h => by
    simp only [goodL, Bool.and_eq_true] at h
    rw [subL, sbsL, subT_sbs l t h.1, subL_sbs l ts h.2]
end
mutual
theorem sbs_good {σ : Int → Tr} : ∀ T : Tr, T.good = true → (∀ x, occ x T → (σ x).good = true) → (sbs σ T).good = true
  | .node k n s l, h, ho => by
    rw [sbs]
    by_cases hk : k = 1
    · rw [if_pos hk]; exact ho n (.inl ⟨hk, rfl⟩)
    · rw [if_neg hk]
      simp only [Tr.good, Bool.and_eq_true, sbsL_length] at h ⊢
      exact ⟨h.1, sbsL_good l h.2 fun x hx => ho x (.inr ⟨hk, hx⟩)⟩
theorem sbsL_good {σ : Int → Tr} : ∀ l : List Tr, goodL l = true → (∀ x, occL x l → (σ x).good = true) → goodL (sbsL σ l) = true
  | [], _, _ => rfl
  | t :: ts, h, ho => by
    simp only [goodL, Bool.and_eq_true] at h
    simp only [sbsL, goodL, Bool.and_eq_true]
    exact ⟨sbs_good t h.1 fun x hx => ho x (.inl hx), sbsL_good ts h.2 fun x hx => ho x (.inr hx)⟩
end
mutual
theorem occ_range : ∀ (T : Tr) (x : Int), T.good = true → occ x T → 0 ≤ x ∧ x < 100000
  | .node k n s l, x, h, hx => by
    rcases hx with ⟨rfl, rfl⟩ | ⟨hk, hx⟩
    · exact (good_var h).2.2
    · simp only [Tr.good, Bool.and_eq_true] at h
      exact occL_range l x h.2 hx
theorem occL_range : ∀ (l : List Tr) (x : Int), goodL l = true → occL x l → 0 ≤ x ∧ x < 100000
  | t :: ts, x, h, hx => by
    simp only [goodL, Bool.and_eq_true] at h
    rcases hx with hx | hx
    · exact occ_range t x h.1 hx
    · exact occL_range ts x h.2 hx
end
mutual
theorem varsIn_occ {N : Nat} : ∀ (T : Tr) (x : Int), varsIn N T → occ x T → 0 ≤ x ∧ x < N
  | .node k n s l, x, h, hx => by
    unfold varsIn at h
    rcases hx with ⟨rfl, rfl⟩ | ⟨hk, hx⟩
    · exact h.1 rfl
    · exact varsInL_occ l x h.2 hx
theorem varsInL_occ {N : Nat} : ∀ (l : List Tr) (x : Int), varsInL N l → occL x l → 0 ≤ x ∧ x < N
  | t :: ts, x, h, hx => by
    unfold varsInL at h
    rcases hx with hx | hx
    · exact varsIn_occ t x h.1 hx
    · exact varsInL_occ ts x h.2 hx
end
theorem getD_mem {l : List Tr} {n : Nat} (h : n < l.length) : l.getD n default ∈ l := by
  simp only [List.getD, List.getElem?_eq_getElem h, Option.getD_some]
  exact List.getElem_mem h
theorem sgS_good {l : List Tr} (hl : subOkB l = true) {n : Int} (h0 : 0 ≤ n) (h1 : n < 100000) : (sgS l n).good = true := by
  unfold sgS
  split
  · rename_i h
    have hp := h
    simp only [putsB, Bool.and_eq_true, decide_eq_true_eq] at hp
    rcases subOk_mem hl (putsB_mem h h0) with hf | hf
    · exact absurd (free_size hf).2 hp.2
    · exact (isB_is hf).1
  · exact good_V h0 h1
/-- What Subst hands back, if it is no error. -/
theorem subst_ok {T : Tr} {l : List Tr} (hT : isB T = true) (hl : subOkB l = true) : (substE T l = 0 ∧ isB (subT l T) = true ∧ substV T l = subT l T) ∨ (substE T l = 2 ∧ substV T l = zeroTr) := by
  have hg := (isB_is hT).1
  rw [substE, substV, hT, hl]
  cases hf : fitsB (subT l T) with
  | true =>
    refine .inl ⟨rfl, ?_, rfl⟩
    simp only [fitsB, Bool.and_eq_true, decide_eq_true_eq] at hf
    refine isB_mk ?_ hf.1 hf.2
    rw [subT_sbs l T hg]
    exact sbs_good T hg fun x hx => sgS_good hl (occ_range T x hg hx).1 (occ_range T x hg hx).2
  | false => exact .inr ⟨rfl, rfl⟩

mutual
theorem match_all {P : Tr → Prop} (hP : ∀ k n s l, P (.node k n s l) → ∀ t, t ∈ l → P t) : ∀ (p t : Tr) (fs fs' : List Tr), (∀ x, x ∈ fs → x = zeroTr ∨ P x) → P t → matchT p t fs = some fs' → ∀ x, x ∈ fs' → x = zeroTr ∨ P x
  | .node k n s l, t, fs, fs', hf, ht, hm => by
    rw [matchT] at hm
    split at hm
    · split at hm
      · cases hm
        intro x hx
        rcases List.mem_or_eq_of_mem_set hx with h | h
        · exact hf x h
        · rw [h]; exact .inr ht
      · split at hm
        · cases hm; exact hf
        · cases hm
    · split at hm
      · cases t with
        | node k' n' s' l' => exact matchL_all hP l l' fs fs' hf (fun y hy => hP _ _ _ _ ht y hy) hm
      · cases hm
theorem matchL_all {P : Tr → Prop} (hP : ∀ k n s l, P (.node k n s l) → ∀ t, t ∈ l → P t) : ∀ (l l' : List Tr) (fs fs' : List Tr), (∀ x, x ∈ fs → x = zeroTr ∨ P x) → (∀ y, y ∈ l' → P y) → matchL l l' fs = some fs' → ∀ x, x ∈ fs' → x = zeroTr ∨ P x
  | [], _, fs, fs', hf, _, hm => by rw [matchL] at hm; cases hm; exact hf
  | _ :: _, [], _, _, _, _, hm => by rw [matchL] at hm; cases hm
  | a :: u, b :: v, fs, fs', hf, hl, hm => by
    rw [matchL] at hm
    cases hab : matchT a b fs with
    | none => rw [hab] at hm; cases hm
    | some g =>
      rw [hab] at hm
      exact matchL_all hP u v g fs' (match_all hP a b fs g hf (hl b (by simp)) hab) (fun y hy => hl y (by simp [hy])) hm
end
theorem goodL_mem : ∀ {l : List Tr} {t : Tr}, goodL l = true → t ∈ l → t.good = true
  | u :: us, t, h, ht => by
    simp only [goodL, Bool.and_eq_true] at h
    rcases List.mem_cons.1 ht with rfl | ht
    · exact h.1
    · exact goodL_mem h.2 ht
theorem isB_sub {k n : Int} {s : ByteArray} {l : List Tr} (h : isB (.node k n s l) = true) {t : Tr} (ht : t ∈ l) : isB t = true := by
  obtain ⟨h1, h2, h3⟩ := isB_is h
  simp only [Tr.good, Bool.and_eq_true] at h1
  simp only [Tr.size, Tr.deep] at h2 h3
  have := size_mem ht
  have := deep_mem ht
  exact isB_mk (goodL_mem h1.2 ht) (by omega) (by omega)
/-- What Match finds leads from p to t. -/
theorem match_back {p t : Tr} {fs : List Tr} (h : matchR p t = some fs) : subOkB fs = true ∧ substE p fs = 0 ∧ substV p fs = t ∧ fs.length ≤ 100000 := by
  obtain ⟨hp, ht, hs, hlen, hocc⟩ := matchR_some h
  have hpg := (isB_is hp).1
  have hm : matchT p t (slots p) = some fs := by rw [matchR, hp, ht] at h; exact h
  have hall := match_all (P := fun x => isB x = true) (fun _ _ _ _ h t ht => isB_sub h ht) p t (slots p) fs (fun x hx => .inl (List.eq_of_mem_replicate hx)) ht hm
  have hle : fs.length ≤ 100000 := by
    have := hiT_le hp
    rw [hlen, slots, List.length_replicate]
    omega
  have hok : subOkB fs = true := by
    simp only [subOkB, Bool.and_eq_true, decide_eq_true_eq, List.all_eq_true, Bool.or_eq_true]
    refine ⟨hle, fun x hx => ?_⟩
    rcases hall x hx with rfl | h1
    · exact .inl (by simp [zeroTr, Tr.free, freeB, emp_nil])
    · exact .inr h1
  have hv := varsIn_slots hp
  have e : subT fs p = t := by
    rw [subT_sbs fs p hpg, ← hs]
    refine (sbs_eq p).2 fun x hx => ?_
    obtain ⟨h0, h1⟩ := varsIn_occ p x hv hx
    have hk := hocc x hx
    rw [sgS, if_pos]
    · rfl
    · simp only [putsB, Bool.and_eq_true, decide_eq_true_eq]
      exact ⟨⟨trivial, by omega⟩, hk⟩
  have hfit : fitsB t = true := by
    obtain ⟨_, h2, h3⟩ := isB_is ht
    simp [fitsB, h2, h3]
  refine ⟨hok, ?_, ?_, hle⟩
  · rw [substE, hp, hok, e, hfit]; rfl
  · rw [substV, hp, hok, e, hfit]; rfl
/-- What is matched of an instance is what was put, wherever there was something. -/
theorem match_inst {p : Tr} {l : List Tr} (hp : isB p = true) (hx : isB (subT l p) = true) : ∃ m, matchR p (subT l p) = some m ∧ ∀ x, occ x p → 0 ≤ x ∧ x < m.length ∧ m.getD x.toNat default = sgS l x := by
  have hg := (isB_is hp).1
  have hi : instB p (subT l p) = true := (instB_iff hp hx).2 ⟨sgS l, (subT_sbs l p hg).symm⟩
  obtain ⟨m, hm⟩ := Option.isSome_iff_exists.1 hi
  refine ⟨m, hm, fun x hocc => ?_⟩
  obtain ⟨_, _, hs, hlen, _⟩ := matchR_some hm
  obtain ⟨h0, h1⟩ := varsIn_occ p x (varsIn_slots hp) hocc
  refine ⟨h0, by omega, ?_⟩
  rw [subT_sbs l p hg] at hs
  exact (sbs_eq p).1 hs x hocc
/-- The wanted term, as the law says it. -/
theorem want_eq {l : List Tr} (hl : subOkB l = true) {x : Int} (h0 : 0 ≤ x) : sgS l x = if x < l.length ∧ (l.getD x.toNat default).free = false then l.getD x.toNat default else tV x := by
  unfold sgS
  by_cases hlt : x < l.length
  · have hn : x.toNat < l.length := by omega
    have hm := getD_mem hn
    cases hf : (l.getD x.toNat default).free with
    | true =>
      have hk := (free_size hf).2
      rw [if_neg (fun h => by simp only [putsB, Bool.and_eq_true, decide_eq_true_eq] at h; exact h.2 hk), if_neg (by simp)]
    | false =>
      have hk : (l.getD x.toNat default).kind ≠ 0 := by
        rcases subOk_mem hl hm with h | h
        · rw [hf] at h; cases h
        · exact good_kind (isB_is h).1
      rw [if_pos (by simp only [putsB, Bool.and_eq_true, decide_eq_true_eq]; exact ⟨⟨trivial, hlt⟩, hk⟩), if_pos ⟨hlt, rfl⟩]
  · rw [if_neg (by simp [putsB, hlt]), if_neg (fun h => hlt h.1)]
theorem varR_inst {p t : Tr} (hp : isB p = true) (ht : isB t = true) : (instB p t && instB t p) = varR p t := by
  rw [Bool.eq_iff_iff, Bool.and_eq_true, instB_iff hp ht, instB_iff ht hp, varR_iff hp ht]

attribute [local go_sem] monoUpon Yld.says

theorem refCheck_any (T : Tr) (v : Value) (w : World) (hT : IsT w.heap.size w T v) (hsz : T.size ≤ 1000000000) (hdp : T.deep ≤ 1000000000) :
    Calls Tryz.prog 34 #[v] w fun e w' => e = .returned (.int .i64 (errI (isB T))) ∧ Below w.heap.size w w' := by
  obtain ⟨k, n, s, a, m, c, rfl⟩ := (IsT.toP _ _ hT).form
  have hb := below_a1 (Nat.le_refl w.heap.size) (.cells #[.int .i64 k, .int .i64 n, .string s, .slice a m c] 24)
  replace hT := hT.up hb hb.size
  go_enter Tryz.func34, Tryz.ntmps34
  go_wp2_with fail
  refine (refIs_any T _ _ hT hsz hdp).mono ?_
  rintro e W1 ⟨rfl, B⟩
  replace hb := hb.trans (B.mono hb.size)
  clear B hT
  obtain ⟨r, hr⟩ : ∃ r, isB T = r := ⟨_, rfl⟩
  have HR := Lib.hid hr
  rw [hr]
  clear hr
  cases r <;> (go_wp2_with fail; go_ret; exact ⟨by rw [HR.out]; rfl, hb⟩)

/-- The list is short, and its trees small. -/
def litB (l : List Tr) : Bool := decide (l.length ≤ 60) && smallB l
theorem Subst_ok {T : Tr} {l : List Tr} (v : Value) (a : Option Addr) (c : Nat) (w : World) (hT : IsT w.heap.size w T v) (hB : isB T = true) (hs : subOkB l = true) (h4 : l.length ≤ c) (h5 : c ≤ maxLen) (hl : IsL w.heap.size w l a) (X : Tr) (x : Int) (hX : substV T l = X) (hx : substE T l = x) :
    Calls Tryz.prog 23 #[v, .slice a l.length c] w fun e w' => ∃ k n s a m c, e = .returned (.tuple #[.agg #[.int .i64 k, .int .i64 n, .string s, .slice a m c], .int .i64 x]) ∧ IsT w'.heap.size w' X (.agg #[.int .i64 k, .int .i64 n, .string s, .slice a m c]) ∧ Below w.heap.size w w' := by
  subst hX hx
  have hlen : l.length ≤ 100000 := by simp only [subOkB, Bool.and_eq_true, decide_eq_true_eq] at hs; exact hs.1
  have hd : ∀ t, t ∈ l → t.deep ≤ 999999999 := fun t ht => by
    rcases subOk_mem hs ht with h | h
    · have h1 := (free_size h).1
      have : t.deep ≤ t.size := deep_le_size t
      omega
    · have := (isB_size h).2; omega
  refine (subst_any T l v a c w hT (by have := (isB_size hB).2; omega) (by omega) h4 h5 hl hd).mono ?_
  rintro e w' ⟨v', rfl, hP, B⟩
  have hx := New.toT hP
  obtain ⟨k, n, s, a, m, c, rfl⟩ := hP.form
  exact ⟨k, n, s, a, m, c, rfl, hx, B⟩
theorem Match_none {T U : Tr} (hT : isB T = true) (hU : isB U = true) (h : matchR T U = none) (v u : Value) (w : World) (hv : IsT w.heap.size w T v) (hu : IsT w.heap.size w U u) :
    Calls Tryz.prog 26 #[v, u] w fun e w' => e = .returned (.tuple #[.slice none 0 0, .bool false, .int .i64 0]) ∧ Below w.heap.size w w' := by
  refine (Match_any T U v u w hv hu (by have := (isB_size hT).2; omega) (by have := (isB_size hU).2; omega)).mono ?_
  rintro e w' ⟨B, hh⟩
  rw [h, hT, hU] at hh
  exact ⟨hh, B⟩
theorem Match_some {T U : Tr} {fs : List Tr} (h : matchR T U = some fs) (v u : Value) (w : World) (hv : IsT w.heap.size w T v) (hu : IsT w.heap.size w U u) :
    Calls Tryz.prog 26 #[v, u] w fun e w' => ∃ a c, e = .returned (.tuple #[.slice a fs.length c, .bool true, .int .i64 0]) ∧ fs.length ≤ c ∧ c ≤ maxLen ∧ IsL w'.heap.size w' fs a ∧ Below w.heap.size w w' := by
  obtain ⟨hT, hU, _⟩ := matchR_some h
  refine (Match_any T U v u w hv hu (by have := (isB_size hT).2; omega) (by have := (isB_size hU).2; omega)).mono ?_
  rintro e w' ⟨B, hh⟩
  rw [h] at hh
  obtain ⟨x, rfl, hx⟩ := hh
  obtain ⟨a, c, rfl, h1, h2, h3⟩ := hx.toS (fun b h => h.2)
  exact ⟨a, c, rfl, h1, h2, h3, B⟩
theorem Vars_one {T : Tr} (hT : isB T = true) (v0 v1 v2 v3 : Value) (w : World) (h : IsT w.heap.size w T (.agg #[v0, v1, v2, v3])) :
    Calls Tryz.prog 8 #[.slice (some ⟨w.heap.size, 0, none⟩) 1 1] (w.alloc (.cells #[v0, v1, v2, v3] 24)) fun e w' => ∃ a c, e = .returned (.tuple #[.slice a (vars1 T).length c, .int .i64 0]) ∧ RdN w'.heap.size w' (vars1 T) (.slice a (vars1 T).length c) ∧ Below w.heap.size w w' := by
  obtain ⟨a, c, he, h1, h2, h3⟩ := isS1 h
  cases he
  refine Calls.mono (Vars_any [T] _ 1 _ (by unfold maxLen; simp) h3 (by intro t ht; simp at ht; subst ht; have := (isB_size hT).2; omega)) ?_
  rintro e w' ⟨B, hh⟩
  rw [tog1, hT] at hh
  obtain ⟨v, rfl, hn⟩ := hh
  have hr : RdN w'.heap.size w' (vars1 T) v := hn.rd
  have hr' := hr
  obtain ⟨a, c, rfl, _⟩ := hr'
  exact ⟨a, c, rfl, hr, up1 B⟩
end Go.Proofs.YtdigiaigbcfccaaGreatDoor
