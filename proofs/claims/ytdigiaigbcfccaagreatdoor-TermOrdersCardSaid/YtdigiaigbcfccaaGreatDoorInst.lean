/- Instances of trees: substitutions, matching, numbering anew. No program is named here. -/
import Derived.Test.YtdigiaigbcfccaaGreatDoorGeneral
namespace Go.Proofs.YtdigiaigbcfccaaGreatDoor
open Go.RowKit Go

theorem size_zero {s : ByteArray} (h : s.size = 0) : s = emp := by
  cases s with
  | mk d => simp [ByteArray.size] at h; simp [emp, h]
/-- A variable of a term is a leaf. -/
theorem good_var {n : Int} {s : ByteArray} {l : List Tr} (h : (Tr.node 1 n s l).good = true) : s = emp ∧ l = [] ∧ 0 ≤ n ∧ n < 100000 := by
  simp only [Tr.good, nodeB, if_pos, Bool.and_eq_true, decide_eq_true_eq] at h
  exact ⟨size_zero (toList_nil h.1.1.2), List.length_eq_zero_iff.1 h.1.2, h.1.1.1.1, h.1.1.1.2⟩

mutual
/-- The tree with trees in the place of its variables. -/
def sbs (σ : Int → Tr) : Tr → Tr
  | .node k n s l => if k = 1 then σ n else .node k n s (sbsL σ l)
def sbsL (σ : Int → Tr) : List Tr → List Tr
  | [] => []
  | t :: ts => sbs σ t :: sbsL σ ts
end
mutual
/-- The variable x occurs. -/
def occ (x : Int) : Tr → Prop
  | .node k n _ l => (k = 1 ∧ n = x) ∨ (k ≠ 1 ∧ occL x l)
def occL (x : Int) : List Tr → Prop
  | [] => False
  | t :: ts => occ x t ∨ occL x ts
end
theorem sbsL_length (σ : Int → Tr) : ∀ l : List Tr, (sbsL σ l).length = l.length
  | [] => rfl
  | t :: ts => by simp [sbsL, sbsL_length σ ts]
mutual
theorem sbs_eq {σ τ : Int → Tr} : ∀ T : Tr, (sbs σ T = sbs τ T ↔ ∀ x, occ x T → σ x = τ x)
  | .node k n s l => by
    rw [sbs, sbs]
    by_cases hk : k = 1
    · rw [if_pos hk, if_pos hk]
      simp only [occ, hk, true_and, ne_eq, not_true_eq_false, false_and, or_false]
      exact ⟨fun h x e => e ▸ h, fun h => h n rfl⟩
    · rw [if_neg hk, if_neg hk]
      simp only [occ, hk, false_and, false_or, ne_eq, not_false_eq_true, true_and, Tr.node.injEq]
      exact sbsL_eq l
theorem sbsL_eq {σ τ : Int → Tr} : ∀ l : List Tr, (sbsL σ l = sbsL τ l ↔ ∀ x, occL x l → σ x = τ x)
  | [] => by simp [sbsL, occL]
  | t :: ts => by
    simp only [sbsL, occL, List.cons.injEq, sbs_eq t, sbsL_eq ts]
    exact ⟨fun h x hx => hx.elim (h.1 x) (h.2 x), fun h => ⟨fun x hx => h x (.inl hx), fun x hx => h x (.inr hx)⟩⟩
end
mutual
theorem sbs_sbs (σ τ : Int → Tr) : ∀ T : Tr, sbs τ (sbs σ T) = sbs (fun n => sbs τ (σ n)) T
  | .node k n s l => by
    rw [sbs, sbs]
    by_cases hk : k = 1
    · rw [if_pos hk, if_pos hk]
    · rw [if_neg hk, if_neg hk, sbs, if_neg hk, sbsL_sbsL σ τ l]
theorem sbsL_sbsL (σ τ : Int → Tr) : ∀ l : List Tr, sbsL τ (sbsL σ l) = sbsL (fun n => sbs τ (σ n)) l
  | [] => rfl
  | t :: ts => by simp [sbsL, sbs_sbs σ τ t, sbsL_sbsL σ τ ts]
end
mutual
theorem sbs_ren (f : Int → Int) : ∀ T : Tr, T.good = true → sbs (fun n => tV (f n)) T = renT f T
  | .node k n s l, h => by
    rw [sbs, renT]
    by_cases hk : k = 1
    · subst hk
      obtain ⟨rfl, rfl, _⟩ := good_var h
      rfl
    · rw [if_neg hk, if_neg hk]
      simp only [Tr.good, Bool.and_eq_true] at h
      rw [sbsL_ren f l h.2]
theorem sbsL_ren (f : Int → Int) : ∀ l : List Tr, goodL l = true → sbsL (fun n => tV (f n)) l = renL f l
  | [], _ => rfl
  | t :: ts, h => by
    simp only [goodL, Bool.and_eq_true] at h
    simp [sbsL, renL, sbs_ren f t h.1, sbsL_ren f ts h.2]
end
mutual
theorem ren_id : ∀ T : Tr, renT (fun n => n) T = T
  | .node k n s l => by rw [renT, renL_id l]; simp
theorem renL_id : ∀ l : List Tr, renL (fun n => n) l = l
  | [] => rfl
  | t :: ts => by simp [renL, ren_id t, renL_id ts]
end
theorem sbs_id {T : Tr} (h : T.good = true) : sbs tV T = T := by
  have := sbs_ren (fun n => n) T h
  rw [ren_id] at this
  exact this

/-- t is an instance of p. -/
def inst (p t : Tr) : Prop := ∃ σ, sbs σ p = t
theorem inst_refl {T : Tr} (h : T.good = true) : inst T T := ⟨tV, sbs_id h⟩
theorem inst_trans {a b c : Tr} (h : inst a b) (k : inst b c) : inst a c := by
  obtain ⟨σ, rfl⟩ := h
  obtain ⟨τ, rfl⟩ := k
  exact ⟨_, (sbs_sbs σ τ a).symm⟩

/-- Variables with their numbers in the list. -/
theorem idx_ne {x y : Int} (xs : List Int) (h : x ≠ y) : (x :: xs).idxOf y = xs.idxOf y + 1 := by
  have : (x == y) = false := by simpa using h
  simp [List.idxOf_cons, this]
theorem numAt_not : ∀ (xs : List Int) (f : Int → Int) (i y : Int), ¬ y ∈ xs → numAt f i xs y = f y
  | [], f, i, y, _ => rfl
  | x :: xs, f, i, y, h => by
    simp only [List.mem_cons, not_or] at h
    rw [numAt, numAt_not xs _ _ y h.2, numU, if_neg h.1]
theorem numAt_idx : ∀ (xs : List Int) (f : Int → Int) (i y : Int), xs.Nodup → y ∈ xs → numAt f i xs y = i + xs.idxOf y
  | x :: xs, f, i, y, hn, h => by
    simp only [List.nodup_cons] at hn
    by_cases e : y = x
    · subst e
      rw [numAt, numAt_not xs _ _ y hn.1, numU, if_pos rfl]
      simp
    · have h' : y ∈ xs := by simpa [e] using h
      rw [numAt, numAt_idx xs _ _ y hn.2 h', idx_ne _ (fun h => e h.symm)]
      omega
theorem numV_idx {xs : List Int} {y : Int} (hn : xs.Nodup) (h : y ∈ xs) : numV xs y = xs.idxOf y := by
  rw [numV, numAt_idx xs _ _ y hn h]; omega

/-- The variables of one tree. -/
def vars1 (T : Tr) : List Int := varsP [] (preT 1 T)
theorem addV_mem {S : List Int} {x : Int × Tr} {y : Int} : y ∈ addV S x ↔ y ∈ S ∨ (x.2.kind = 1 ∧ x.2.num = y) := by
  unfold addV
  split
  · rename_i h
    simp only [List.mem_append, List.mem_singleton]
    constructor
    · rintro (h1 | h1)
      · exact .inl h1
      · exact .inr ⟨h.1, h1.symm⟩
    · rintro (h1 | h1)
      · exact .inl h1
      · exact .inr h1.2.symm
  · rename_i h
    constructor
    · exact .inl
    · rintro (h1 | h1)
      · exact h1
      · have : x.2.num ∈ S := by
          by_cases e : x.2.num ∈ S
          · exact e
          · exact absurd ⟨h1.1, e⟩ h
        rw [← h1.2]; exact this
theorem varsP_mem {y : Int} : ∀ (xs : List (Int × Tr)) (S : List Int), y ∈ varsP S xs ↔ y ∈ S ∨ ∃ x, x ∈ xs ∧ x.2.kind = 1 ∧ x.2.num = y
  | [], S => by simp [varsP]
  | x :: xs, S => by
    have := varsP_mem (y := y) xs (addV S x)
    simp only [varsP, List.foldl_cons] at *
    rw [this, addV_mem]
    simp only [List.mem_cons, exists_eq_or_imp, or_assoc]
theorem addV_nodup {S : List Int} {x : Int × Tr} (h : S.Nodup) : (addV S x).Nodup := by
  unfold addV
  split
  · rename_i h1
    rw [List.nodup_append]
    refine ⟨h, by simp, fun a ha b hb => ?_⟩
    simp at hb
    rintro rfl
    exact h1.2 (hb ▸ ha)
  · exact h
theorem varsP_nodup : ∀ (xs : List (Int × Tr)) (S : List Int), S.Nodup → (varsP S xs).Nodup
  | [], S, h => h
  | x :: xs, S, h => by
    simp only [varsP, List.foldl_cons]
    exact varsP_nodup xs _ (addV_nodup h)
mutual
theorem pre_occ {y : Int} : ∀ (T : Tr) (d : Int), T.good = true → ((∃ x, x ∈ preT d T ∧ x.2.kind = 1 ∧ x.2.num = y) ↔ occ y T)
  | .node k n s l, d, h => by
    simp only [preT, List.mem_cons, exists_eq_or_imp, occ]
    by_cases hk : k = 1
    · subst hk
      obtain ⟨_, rfl, _⟩ := good_var h
      simp [preL, Tr.kind, Tr.num]
    · simp only [Tr.good, Bool.and_eq_true] at h
      rw [preL_occ l (d + 1) h.2]
      simp [Tr.kind, Tr.num, hk]
theorem preL_occ {y : Int} : ∀ (l : List Tr) (d : Int), goodL l = true → ((∃ x, x ∈ preL d l ∧ x.2.kind = 1 ∧ x.2.num = y) ↔ occL y l)
  | [], d, _ => by simp [preL, occL]
  | t :: ts, d, h => by
    simp only [goodL, Bool.and_eq_true] at h
    simp only [preL, List.mem_append, or_and_right, exists_or, occL, pre_occ t d h.1, preL_occ ts d h.2]
end
theorem vars1_mem {T : Tr} (h : T.good = true) {y : Int} : y ∈ vars1 T ↔ occ y T := by
  rw [vars1, varsP_mem, pre_occ T 1 h]; simp
theorem vars1_nodup (T : Tr) : (vars1 T).Nodup := varsP_nodup _ _ List.nodup_nil

/-- The tree with its variables numbered anew. -/
def nrm (T : Tr) : Tr := renT (numV (vars1 T)) T
theorem nrm_from {T : Tr} (h : T.good = true) : inst T (nrm T) := ⟨_, sbs_ren _ T h⟩
theorem nrm_to {T : Tr} (h : T.good = true) : inst (nrm T) T := by
  refine ⟨fun n => tV ((vars1 T).getD n.toNat 0), ?_⟩
  rw [nrm, ← sbs_ren _ T h, sbs_sbs]
  refine Eq.trans ((sbs_eq T).2 fun x hx => ?_) (sbs_id h)
  have hm := (vars1_mem h).2 hx
  have hlt := List.idxOf_lt_length_of_mem hm
  show sbs _ (tV (numV (vars1 T) x)) = tV x
  rw [numV_idx (vars1_nodup T) hm]
  simp [tV, sbs, List.getD, hlt]

mutual
theorem pre_ren (f : Int → Int) : ∀ (T : Tr) (d : Int), preT d (renT f T) = (preT d T).map (fun x => (x.1, renT f x.2))
  | .node k n s l, d => by
    rw [renT, preT, preT, preL_ren f l (d + 1)]
    simp [renT]
theorem preL_ren (f : Int → Int) : ∀ (l : List Tr) (d : Int), preL d (renL f l) = (preL d l).map (fun x => (x.1, renT f x.2))
  | [], d => rfl
  | t :: ts, d => by simp [preL, renL, pre_ren f t d, preL_ren f ts d]
end
theorem ren_kind (f : Int → Int) (T : Tr) : (renT f T).kind = T.kind := by cases T; rfl
theorem ren_num (f : Int → Int) (T : Tr) (h : T.kind = 1) : (renT f T).num = f T.num := by
  cases T with
  | node k n s l => simp only [Tr.kind] at h; simp [renT, Tr.num, h]
theorem varsP_ren (f : Int → Int) (M : List Int) (hf : ∀ x y, x ∈ M → y ∈ M → f x = f y → x = y) : ∀ (xs : List (Int × Tr)) (S : List Int), (∀ x, x ∈ xs → x.2.kind = 1 → x.2.num ∈ M) → (∀ y, y ∈ S → y ∈ M) →
    varsP (S.map f) (xs.map (fun x => (x.1, renT f x.2))) = (varsP S xs).map f
  | [], S, _, _ => rfl
  | x :: xs, S, hx, hS => by
    have e : addV (S.map f) (x.1, renT f x.2) = (addV S x).map f := by
      unfold addV
      simp only [ren_kind]
      by_cases hk : x.2.kind = 1
      · rw [ren_num f x.2 hk]
        have hm : f x.2.num ∈ S.map f ↔ x.2.num ∈ S := by
          rw [List.mem_map]
          constructor
          · rintro ⟨y, hy, e⟩
            have := hf y x.2.num (hS y hy) (hx x (by simp) hk) e
            rw [← this]; exact hy
          · exact fun h => ⟨_, h, rfl⟩
        by_cases hin : x.2.num ∈ S
        · rw [if_neg (by rw [hm]; simp [hin]), if_neg (by simp [hin])]
        · rw [if_pos (by rw [hm]; exact ⟨hk, hin⟩), if_pos ⟨hk, hin⟩]; simp
      · rw [if_neg (by simp [hk]), if_neg (by simp [hk])]
    simp only [varsP, List.map_cons, List.foldl_cons]
    rw [e]
    refine varsP_ren f M hf xs (addV S x) (fun y hy => hx y (by simp [hy])) (fun y hy => ?_)
    rcases addV_mem.1 hy with h | ⟨h1, h2⟩
    · exact hS y h
    · rw [← h2]; exact hx x (by simp) h1
theorem idxOf_map (f : Int → Int) {x : Int} : ∀ {M : List Int}, (∀ y z, y ∈ M → z ∈ M → f y = f z → y = z) → x ∈ M → (M.map f).idxOf (f x) = M.idxOf x
  | y :: ys, hf, hx => by
    by_cases e : y = x
    · subst e; simp
    · have hne : f y ≠ f x := fun h => e (hf y x (by simp) hx h)
      have hx' : x ∈ ys := by
        rcases List.mem_cons.1 hx with h | h
        · exact absurd h.symm e
        · exact h
      rw [List.map_cons, idx_ne _ hne, idx_ne _ e, idxOf_map f (fun a b ha hb => hf a b (by simp [ha]) (by simp [hb])) hx']
theorem nodup_map (f : Int → Int) : ∀ {M : List Int}, (∀ y z, y ∈ M → z ∈ M → f y = f z → y = z) → M.Nodup → (M.map f).Nodup
  | [], _, _ => by simp
  | y :: ys, hf, h => by
    simp only [List.nodup_cons] at h
    rw [List.map_cons, List.nodup_cons]
    refine ⟨fun hm => ?_, nodup_map f (fun a b ha hb => hf a b (by simp [ha]) (by simp [hb])) h.2⟩
    obtain ⟨z, hz, e⟩ := List.mem_map.1 hm
    exact h.1 (hf z y (by simp [hz]) (by simp) e ▸ hz)
mutual
theorem ren_ren (f g : Int → Int) : ∀ T : Tr, renT g (renT f T) = renT (fun n => g (f n)) T
  | .node k n s l => by
    rw [renT, renT, renT, renL_renL f g l]
    by_cases hk : k = 1 <;> simp [hk]
theorem renL_renL (f g : Int → Int) : ∀ l : List Tr, renL g (renL f l) = renL (fun n => g (f n)) l
  | [] => rfl
  | t :: ts => by simp [renL, ren_ren f g t, renL_renL f g ts]
end
/-- Trees whose variables are named otherwise are numbered anew alike. -/
theorem nrm_ren {T : Tr} (h : T.good = true) (f : Int → Int) (hf : ∀ x y, occ x T → occ y T → f x = f y → x = y) : nrm (renT f T) = nrm T := by
  have hM : ∀ x y, x ∈ vars1 T → y ∈ vars1 T → f x = f y → x = y := fun x y hx hy => hf x y ((vars1_mem h).1 hx) ((vars1_mem h).1 hy)
  have e : vars1 (renT f T) = (vars1 T).map f := by
    have hx : ∀ x, x ∈ preT 1 T → x.2.kind = 1 → x.2.num ∈ vars1 T := fun x hx hk => (vars1_mem h).2 ((pre_occ T 1 h).1 ⟨x, hx, hk, rfl⟩)
    have := varsP_ren f (vars1 T) hM (preT 1 T) [] hx (fun y hy => by simp at hy)
    rw [vars1, pre_ren]
    exact this
  rw [nrm, e, ren_ren, nrm]
  rw [← sbs_ren _ T h, ← sbs_ren _ T h]
  refine (sbs_eq T).2 fun x hx => ?_
  have hm := (vars1_mem h).2 hx
  rw [numV_idx (nodup_map f hM (vars1_nodup T)) (List.mem_map_of_mem hm), numV_idx (vars1_nodup T) hm, idxOf_map f hM hm]
mutual
theorem occ_good {σ : Int → Tr} : ∀ T : Tr, (sbs σ T).good = true → ∀ x, occ x T → (σ x).good = true
  | .node k n s l, h, x, hx => by
    rw [sbs] at h
    simp only [occ] at hx
    rcases hx with ⟨hk, rfl⟩ | ⟨hk, hx⟩
    · rw [if_pos hk] at h; exact h
    · rw [if_neg hk] at h
      simp only [Tr.good, Bool.and_eq_true] at h
      exact occL_good l h.2 x hx
theorem occL_good {σ : Int → Tr} : ∀ l : List Tr, goodL (sbsL σ l) = true → ∀ x, occL x l → (σ x).good = true
  | t :: ts, h, x, hx => by
    simp only [sbsL, goodL, Bool.and_eq_true] at h
    rcases hx with hx | hx
    · exact occ_good t h.1 x hx
    · exact occL_good ts h.2 x hx
end
/-- Two terms are instances of each other exactly if they are numbered anew alike. -/
theorem nrm_iff {a b : Tr} (ha : a.good = true) (hb : b.good = true) : nrm a = nrm b ↔ inst a b ∧ inst b a := by
  constructor
  · intro h
    refine ⟨inst_trans (nrm_from ha) (h ▸ nrm_to hb), inst_trans (nrm_from hb) (h ▸ nrm_to ha)⟩
  · rintro ⟨⟨σ, rfl⟩, τ, h⟩
    rw [sbs_sbs] at h
    have hid : ∀ x, occ x a → sbs τ (σ x) = tV x := (sbs_eq a).1 (h.trans (sbs_id ha).symm)
    have hv : ∀ x, occ x a → σ x = tV (σ x).num := fun x hx => by
      have h1 := hid x hx
      have h2 := occ_good a hb x hx
      cases hs : σ x with
      | node k n s l =>
        rw [hs] at h1 h2
        by_cases hk : k = 1
        · subst hk
          obtain ⟨rfl, rfl, _⟩ := good_var h2
          rfl
        · rw [sbs, if_neg hk, tV, Tr.node.injEq] at h1
          exact absurd h1.1 hk
    have e : sbs σ a = renT (fun x => (σ x).num) a := by
      rw [← sbs_ren _ a ha]
      exact (sbs_eq a).2 hv
    rw [e]
    refine (nrm_ren ha _ fun x y hx hy hxy => ?_).symm
    have h1 := hid x hx
    rw [hv x hx, hxy, ← hv y hy, hid y hy] at h1
    simp only [tV, Tr.node.injEq] at h1
    exact h1.2.1.symm
/-- What was found, as a substitution. -/
def sgm (fs : List Tr) : Int → Tr := fun n => fs.getD n.toNat default
def Stay (fs fs' : List Tr) : Prop := ∀ i, (fs.getD i default).kind ≠ 0 → fs'.getD i default = fs.getD i default
theorem Stay.trans {a b c : List Tr} (h : Stay a b) (k : Stay b c) : Stay a c := fun i hi => by
  have h1 := h i hi
  rw [k i (by rw [h1]; exact hi), h1]
theorem good_kind {T : Tr} (h : T.good = true) : T.kind ≠ 0 := by
  cases T with
  | node k n s l =>
    simp only [Tr.good, Bool.and_eq_true] at h
    have := (nodeB_kind h.1).1
    simp only [Tr.kind]
    omega
theorem setD_ne {fs : List Tr} {i j : Nat} (h : i ≠ j) (t : Tr) : (fs.set i t).getD j default = fs.getD j default := by
  simp [List.getD, h]
theorem setD_self {fs : List Tr} {i : Nat} (h : i < fs.length) (t : Tr) : (fs.set i t).getD i default = t := by
  simp [List.getD, h]
mutual
theorem match_sound (N : Nat) : ∀ (p t : Tr) (fs fs' : List Tr), p.good = true → t.good = true → varsIn N p → fs.length = N → matchT p t fs = some fs' →
    fs'.length = N ∧ Stay fs fs' ∧ (∀ x, occ x p → (sgm fs' x).kind ≠ 0) ∧ sbs (sgm fs') p = t
  | .node k n s l, t, fs, fs', hp, ht, hv, hN, h => by
    unfold varsIn at hv
    rw [matchT] at h
    by_cases hk : k = 1
    · subst hk
      obtain ⟨rfl, rfl, _⟩ := good_var hp
      obtain ⟨h0, h1⟩ := hv.1 rfl
      rw [if_pos rfl] at h
      have hlt : n.toNat < fs.length := by omega
      have hocc : ∀ x, occ x (.node 1 n emp []) → x = n := fun x hx => by
        simp only [occ] at hx
        rcases hx with hx | hx
        · exact hx.2.symm
        · exact absurd rfl hx.1
      split at h
      · rename_i h2
        cases h
        have hg : sgm (fs.set n.toNat t) n = t := setD_self hlt t
        refine ⟨by simpa using hN, fun i hi => setD_ne (fun e => ?_) t, fun x hx => ?_, ?_⟩
        · subst e; exact hi h2
        · rw [hocc x hx, hg]; exact good_kind ht
        · rw [sbs, if_pos rfl]; exact hg
      · rename_i h2
        split at h
        · rename_i h3
          cases h
          have hg : sgm fs n = t := (beq_iff _ _).1 h3
          exact ⟨hN, fun i _ => rfl, fun x hx => by rw [hocc x hx, hg]; exact good_kind ht, by rw [sbs, if_pos rfl]; exact hg⟩
        · cases h
    · rw [if_neg hk] at h
      split at h
      · rename_i htop
        cases t with
        | node k' n' s' l' =>
        have hll := top_subs htop
        simp only [topT, topB, decide_eq_true_eq] at htop
        obtain ⟨rfl, rfl, rfl, _⟩ := htop
        simp only [Tr.good, Bool.and_eq_true] at hp ht
        obtain ⟨q1, q2, q3, q4⟩ := matchL_sound N l l' fs fs' hp.2 ht.2 hv.2 hN hll h
        refine ⟨q1, q2, fun x hx => ?_, ?_⟩
        · simp only [occ, hk, false_and, false_or, ne_eq, not_false_eq_true, true_and] at hx
          exact q3 x hx
        · rw [sbs, if_neg hk, q4]
      · cases h
theorem matchL_sound (N : Nat) : ∀ (l l' : List Tr) (fs fs' : List Tr), goodL l = true → goodL l' = true → varsInL N l → fs.length = N → l.length = l'.length → matchL l l' fs = some fs' →
    fs'.length = N ∧ Stay fs fs' ∧ (∀ x, occL x l → (sgm fs' x).kind ≠ 0) ∧ sbsL (sgm fs') l = l'
  | [], [], fs, fs', _, _, _, hN, _, h => by
    rw [matchL] at h
    cases h
    exact ⟨hN, fun i _ => rfl, fun x hx => hx.elim, rfl⟩
  | [], _ :: _, _, _, _, _, _, _, hl, _ => by simp at hl
  | _ :: _, [], _, _, _, _, _, _, hl, _ => by simp at hl
  | a :: u, b :: v, fs, fs', hp, ht, hv, hN, hl, h => by
    rw [matchL] at h
    simp only [goodL, Bool.and_eq_true] at hp ht
    unfold varsInL at hv
    cases hab : matchT a b fs with
    | none => rw [hab] at h; cases h
    | some g =>
      rw [hab] at h
      obtain ⟨a1, a2, a3, a4⟩ := match_sound N a b fs g hp.1 ht.1 hv.1 hN hab
      obtain ⟨b1, b2, b3, b4⟩ := matchL_sound N u v g fs' hp.2 ht.2 hv.2 a1 (by simpa using hl) h
      have hkeep : ∀ x, occ x a → sgm fs' x = sgm g x := fun x hx => b2 _ (a3 x hx)
      refine ⟨b1, a2.trans b2, fun x hx => ?_, ?_⟩
      · rcases hx with hx | hx
        · rw [hkeep x hx]; exact a3 x hx
        · exact b3 x hx
      · rw [sbsL, b4, (sbs_eq a).2 hkeep, a4]
end
mutual
theorem match_complete (N : Nat) (σ : Int → Tr) : ∀ (p t : Tr) (fs : List Tr), p.good = true → varsIn N p → fs.length = N → (∀ i, (fs.getD i default).kind ≠ 0 → fs.getD i default = σ (i : Int)) → sbs σ p = t →
    ∃ fs', matchT p t fs = some fs' ∧ fs'.length = N ∧ ∀ i, (fs'.getD i default).kind ≠ 0 → fs'.getD i default = σ (i : Int)
  | .node k n s l, t, fs, hp, hv, hN, hc, h => by
    unfold varsIn at hv
    rw [sbs] at h
    rw [matchT]
    by_cases hk : k = 1
    · obtain ⟨h0, h1⟩ := hv.1 hk
      have hn : ((n.toNat : Nat) : Int) = n := by omega
      rw [if_pos hk] at h ⊢
      split
      · refine ⟨_, rfl, by simpa using hN, fun i hi => ?_⟩
        by_cases e : n.toNat = i
        · subst e
          rw [setD_self (by omega), hn, h]
        · rw [setD_ne e] at hi ⊢
          exact hc i hi
      · rename_i h2
        have h3 := hc n.toNat h2
        rw [hn, h] at h3
        rw [if_pos ((beq_iff _ _).2 h3)]
        exact ⟨_, rfl, hN, hc⟩
    · rw [if_neg hk] at h ⊢
      subst h
      simp only [Tr.good, Bool.and_eq_true] at hp
      rw [if_pos (by simp [topT, topB, sbsL_length])]
      exact matchL_complete N σ l _ fs hp.2 hv.2 hN hc rfl
theorem matchL_complete (N : Nat) (σ : Int → Tr) : ∀ (l l' : List Tr) (fs : List Tr), goodL l = true → varsInL N l → fs.length = N → (∀ i, (fs.getD i default).kind ≠ 0 → fs.getD i default = σ (i : Int)) → sbsL σ l = l' →
    ∃ fs', matchL l l' fs = some fs' ∧ fs'.length = N ∧ ∀ i, (fs'.getD i default).kind ≠ 0 → fs'.getD i default = σ (i : Int)
  | [], l', fs, _, _, hN, hc, h => ⟨fs, by rw [matchL], hN, hc⟩
  | a :: u, l', fs, hp, hv, hN, hc, h => by
    simp only [goodL, Bool.and_eq_true] at hp
    unfold varsInL at hv
    rw [sbsL] at h
    subst h
    obtain ⟨g, h1, h2, h3⟩ := match_complete N σ a (sbs σ a) fs hp.1 hv.1 hN hc rfl
    obtain ⟨fs', k1, k2, k3⟩ := matchL_complete N σ u (sbsL σ u) g hp.2 hv.2 h2 h3 rfl
    exact ⟨fs', by rw [matchL, h1]; exact k1, k2, k3⟩
end

def instB (p t : Tr) : Bool := (matchR p t).isSome
theorem varsIn_slots {p : Tr} (h : isB p = true) : varsIn (slots p).length p := hiT_vars (isB_pos h) (by have := hiT_lo p; simp only [slots, List.length_replicate]; omega)
theorem slots_zero (p : Tr) (i : Nat) : ((slots p).getD i default).kind = 0 := by
  unfold slots
  by_cases h : i < (hiT p + 1).toNat
  · simp [List.getD, h, zeroTr, Tr.kind]
  · simp [List.getD, h]; rfl
theorem isB_is {T : Tr} (h : isB T = true) : T.good = true ∧ T.size ≤ 4000 ∧ T.deep ≤ 600 := by
  rw [isB_good] at h
  simp only [Bool.and_eq_true, decide_eq_true_eq] at h
  exact ⟨h.2, h.1.1, h.1.2⟩
theorem matchR_some {p t : Tr} {fs : List Tr} (h : matchR p t = some fs) : isB p = true ∧ isB t = true ∧ sbs (sgm fs) p = t ∧ fs.length = (slots p).length ∧ ∀ x, occ x p → (sgm fs x).kind ≠ 0 := by
  unfold matchR at h
  split at h
  · rename_i hb
    rw [Bool.and_eq_true] at hb
    obtain ⟨h1, _, h3, h4⟩ := match_sound (slots p).length p t (slots p) fs (isB_is hb.1).1 (isB_is hb.2).1 (varsIn_slots hb.1) rfl h
    exact ⟨hb.1, hb.2, h4, h1, h3⟩
  · cases h
theorem instB_iff {p t : Tr} (hp : isB p = true) (ht : isB t = true) : instB p t = true ↔ inst p t := by
  constructor
  · intro h
    obtain ⟨fs, hfs⟩ := Option.isSome_iff_exists.1 h
    exact ⟨_, (matchR_some hfs).2.2.1⟩
  · rintro ⟨σ, h⟩
    obtain ⟨fs, h1, _⟩ := match_complete (slots p).length σ p t (slots p) (isB_is hp).1 (varsIn_slots hp) rfl (fun i hi => absurd (slots_zero p i) hi) h
    rw [instB, matchR, hp, ht]
    simp [h1]
/-- Both are terms that are numbered anew alike. -/
noncomputable def varR (T U : Tr) : Bool := isB T && isB U && eqT (nrm T) (nrm U)
theorem varR_iff {T U : Tr} (hT : isB T = true) (hU : isB U = true) : varR T U = true ↔ inst T U ∧ inst U T := by
  rw [varR, hT, hU, ← nrm_iff (isB_is hT).1 (isB_is hU).1]
  simp [eqT]
end Go.Proofs.YtdigiaigbcfccaaGreatDoor

/- The least general tree of two. No program is named here. -/
namespace Go.Proofs.YtdigiaigbcfccaaGreatDoor
open Go.RowKit Go

def isDig (c : UInt8) : Bool := decide (48 ≤ c.toNat)
theorem dig_ofNat {d : Nat} (h : d < 10) : (UInt8.ofNat (48 + d)).toNat = 48 + d := by
  rw [UInt8.toNat_ofNat', Nat.mod_eq_of_lt (by omega)]
theorem dec_dig : ∀ u : Nat, (Lib.decDigits u).all isDig = true := by
  intro u
  induction u using Nat.strongRecOn with
  | ind u ih =>
    rw [Lib.decDigits]
    split
    · rename_i h
      simp [isDig]
      omega
    · rename_i h
      rw [List.all_append, ih (u / 10) (by omega)]
      simp [isDig]
      omega
def valD (l : List UInt8) : Nat := l.foldl (fun a c => a * 10 + (c.toNat - 48)) 0
theorem dec_val : ∀ u : Nat, valD (Lib.decDigits u) = u := by
  intro u
  induction u using Nat.strongRecOn with
  | ind u ih =>
    rw [Lib.decDigits]
    split
    · rename_i h
      simp [valD]
      omega
    · rename_i h
      have := ih (u / 10) (by omega)
      simp only [valD] at this
      simp only [valD, List.foldl_append, List.foldl_cons, List.foldl_nil, this, dig_ofNat (Nat.mod_lt u (show 0 < 10 by omega))]
      omega
theorem dec_inj {u v : Nat} (h : Lib.decDigits u = Lib.decDigits v) : u = v := by rw [← dec_val u, h, dec_val]
theorem dec_not {u : Nat} {c : UInt8} (h : c ∈ Lib.decDigits u) : 48 ≤ c.toNat := by
  have := List.all_eq_true.1 (dec_dig u) c h
  simpa [isDig] using this
theorem itoa_inj {x y : Int} (h : Lib.itoa x = Lib.itoa y) : x = y := by
  unfold Lib.itoa at h
  split at h <;> split at h
  · simp only [List.cons.injEq, true_and] at h
    have := dec_inj h
    omega
  · have := dec_not (u := y.toNat) (c := 45) (by rw [← h]; simp)
    simp at this
  · have := dec_not (u := x.toNat) (c := 45) (by rw [h]; simp)
    simp at this
  · have := dec_inj h
    omega
theorem itoa_sp {x : Int} : ¬ (32 : UInt8) ∈ Lib.itoa x := by
  unfold Lib.itoa
  split
  · intro h
    rcases List.mem_cons.1 h with h | h
    · exact absurd h (by decide)
    · have := dec_not h; simp at this
  · intro h
    have := dec_not h; simp at this
theorem split_sp : ∀ {a b r r' : List UInt8}, ¬ (32 : UInt8) ∈ a → ¬ (32 : UInt8) ∈ b → a ++ 32 :: r = b ++ 32 :: r' → a = b ∧ r = r'
  | [], [], r, r', _, _, h => ⟨rfl, by simpa using h⟩
  | [], y :: b, r, r', _, hb, h => by
    simp only [List.nil_append, List.cons_append, List.cons.injEq] at h
    exact absurd (by simp [← h.1]) hb
  | x :: a, [], r, r', ha, _, h => by
    simp only [List.nil_append, List.cons_append, List.cons.injEq] at h
    exact absurd (by simp [h.1]) ha
  | x :: a, y :: b, r, r', ha, hb, h => by
    simp only [List.cons_append, List.cons.injEq] at h
    obtain ⟨h1, h2⟩ := split_sp (fun q => ha (List.mem_cons_of_mem _ q)) (fun q => hb (List.mem_cons_of_mem _ q)) h.2
    exact ⟨by rw [h.1, h1], h2⟩
theorem numT_split {x y : Int} {r r' : List UInt8} (h : numT x ++ r = numT y ++ r') : x = y ∧ r = r' := by
  simp only [numT, List.append_assoc, List.singleton_append] at h
  obtain ⟨h1, h2⟩ := split_sp itoa_sp itoa_sp h
  exact ⟨itoa_inj h1, h2⟩
mutual
/-- No text is the beginning of another one. -/
theorem text_split : ∀ (a b : Tr) (r r' : List UInt8), textT a ++ r = textT b ++ r' → a = b ∧ r = r'
  | .node k n s l, .node k' n' s' l', r, r', h => by
    simp only [textT, List.append_assoc] at h
    obtain ⟨e0, h0⟩ := numT_split h
    obtain ⟨e1', h1⟩ := numT_split h0
    obtain ⟨e1, h2⟩ := numT_split h1
    obtain ⟨e2, h3⟩ := numT_split h2
    clear h h0 h1 h2
    have e3 : s.data.toList.length = s'.data.toList.length := by
      have a1 : s.data.toList.length = s.size := by simp only [ByteArray.size, Array.length_toList]
      have a2 : s'.data.toList.length = s'.size := by simp only [ByteArray.size, Array.length_toList]
      omega
    obtain ⟨e4, h4⟩ := List.append_inj h3 e3
    obtain ⟨e5, h5⟩ := textL_split l l' r r' (by omega) h4
    have e6 : s = s' := by cases s; cases s'; simpa using e4
    exact ⟨by rw [e0, e1', e6, e5], h5⟩
theorem textL_split : ∀ (l l' : List Tr) (r r' : List UInt8), l.length = l'.length → textL l ++ r = textL l' ++ r' → l = l' ∧ r = r'
  | [], [], r, r', _, h => ⟨rfl, by simpa [textL] using h⟩
  | [], _ :: _, _, _, hl, _ => by simp at hl
  | _ :: _, [], _, _, hl, _ => by simp at hl
  | a :: u, b :: v, r, r', hl, h => by
    simp only [textL, List.append_assoc] at h
    obtain ⟨e1, h⟩ := text_split a b _ _ h
    obtain ⟨e2, h⟩ := textL_split u v r r' (by simpa using hl) h
    exact ⟨by rw [e1, e2], h⟩
end
/-- The text of two trees. -/
def key2 (a b : Tr) : List UInt8 := textT a ++ textT b
theorem key2_inj {a b a' b' : Tr} (h : key2 a b = key2 a' b') : a = a' ∧ b = b' := by
  obtain ⟨h1, h2⟩ := text_split a a' _ _ h
  have h3 := text_split b b' [] [] (by simpa using h2)
  exact ⟨h1, h3.1⟩

theorem addK_pre (ks : List (List UInt8)) (key : List UInt8) : ks <+: addK ks key := by
  unfold addK; split
  · exact List.prefix_refl _
  · exact List.prefix_append _ _
theorem addK_mem (ks : List (List UInt8)) (key : List UInt8) : key ∈ addK ks key := by
  unfold addK; split
  · assumption
  · simp
theorem numK_addK (ks : List (List UInt8)) (key : List UInt8) : numK ks key = (addK ks key).idxOf key := by
  unfold numK addK
  split
  · rfl
  · rename_i h
    rw [List.idxOf_append, if_neg h]
    simp
theorem idx_pre {ks K : List (List UInt8)} {key : List UInt8} (h : ks <+: K) (hm : key ∈ ks) : K.idxOf key = ks.idxOf key := by
  obtain ⟨r, rfl⟩ := h
  rw [List.idxOf_append, if_pos hm]
mutual
theorem genT_pre : ∀ (t u : Tr) (ks : List (List UInt8)), ks <+: (genT t u ks).2
  | .node k n s l, u, ks => by
    rw [genT]
    split
    · exact addK_pre _ _
    · exact genL_pre l u.subs ks
theorem genL_pre : ∀ (l l' : List Tr) (ks : List (List UInt8)), ks <+: (genL l l' ks).2
  | [], _, ks => by rw [genL]; exact List.prefix_refl _
  | _ :: _, [], ks => by rw [genL]; exact List.prefix_refl _
  | a :: u, b :: v, ks => by
    rw [genL]
    exact (genT_pre a b ks).trans (genL_pre u v _)
end
mutual
/-- The least general tree, its variables numbered by a list of texts. -/
def gfun (K : List (List UInt8)) : Tr → Tr → Tr
  | .node k n s l, u => if k = 1 ∨ topT (.node k n s l) u = false then tV (K.idxOf (key2 (.node k n s l) u)) else .node k n s (gfunL K l u.subs)
def gfunL (K : List (List UInt8)) : List Tr → List Tr → List Tr
  | [], _ => []
  | _ :: _, [] => []
  | a :: u, b :: v => gfun K a b :: gfunL K u v
end
mutual
/-- The texts of all parts that differ are in the list. -/
def cov (K : List (List UInt8)) : Tr → Tr → Prop
  | .node k n s l, u => if k = 1 ∨ topT (.node k n s l) u = false then key2 (.node k n s l) u ∈ K else covL K l u.subs
def covL (K : List (List UInt8)) : List Tr → List Tr → Prop
  | [], _ => True
  | _ :: _, [] => True
  | a :: u, b :: v => cov K a b ∧ covL K u v
end
mutual
theorem genT_gfun (K : List (List UInt8)) : ∀ (t u : Tr) (ks : List (List UInt8)), (genT t u ks).2 <+: K → (genT t u ks).1 = gfun K t u ∧ cov K t u
  | .node k n s l, u, ks, h => by
    rw [genT] at h ⊢
    rw [gfun, cov]
    split
    · rename_i hc
      rw [if_pos hc] at h
      refine ⟨?_, h.subset (addK_mem _ _)⟩
      show Tr.node 1 (numK ks (key2 (.node k n s l) u)) emp [] = tV _
      rw [numK_addK, tV, ← idx_pre (show addK ks (key2 (.node k n s l) u) <+: K from h) (addK_mem _ _)]
    · rename_i hc
      rw [if_neg hc] at h
      obtain ⟨h1, h2⟩ := genL_gfun K l u.subs ks h
      exact ⟨by rw [h1], h2⟩
theorem genL_gfun (K : List (List UInt8)) : ∀ (l l' : List Tr) (ks : List (List UInt8)), (genL l l' ks).2 <+: K → (genL l l' ks).1 = gfunL K l l' ∧ covL K l l'
  | [], _, ks, h => by rw [genL, gfunL, covL]; exact ⟨rfl, trivial⟩
  | _ :: _, [], ks, h => by rw [genL, gfunL, covL]; exact ⟨rfl, trivial⟩
  | a :: u, b :: v, ks, h => by
    rw [genL] at h ⊢
    rw [gfunL, covL]
    obtain ⟨h1, h2⟩ := genT_gfun K a b ks ((genL_pre u v _).trans h)
    obtain ⟨h3, h4⟩ := genL_gfun K u v _ h
    exact ⟨by rw [h1, h3], h2, h4⟩
end
mutual
/-- It is an instance of each tree of which both are instances. -/
theorem gfun_sbs (K : List (List UInt8)) (α β : Int → Tr) : ∀ h : Tr, sbs (fun n => gfun K (α n) (β n)) h = gfun K (sbs α h) (sbs β h)
  | .node k n s l => by
    rw [sbs, sbs, sbs]
    by_cases hk : k = 1
    · rw [if_pos hk, if_pos hk, if_pos hk]
    · rw [if_neg hk, if_neg hk, if_neg hk, gfun, if_neg (by simp [hk, topT, topB, sbsL_length])]
      rw [gfunL_sbs K α β l]
      rfl
theorem gfunL_sbs (K : List (List UInt8)) (α β : Int → Tr) : ∀ l : List Tr, sbsL (fun n => gfun K (α n) (β n)) l = gfunL K (sbsL α l) (sbsL β l)
  | [] => rfl
  | t :: ts => by rw [sbsL, sbsL, sbsL, gfunL, gfun_sbs K α β t, gfunL_sbs K α β ts]
end
open Classical in
/-- What stood at the first tree's place, and at the second one's. -/
noncomputable def sgK (K : List (List UInt8)) (n : Int) : Tr × Tr := if h : ∃ p : Tr × Tr, key2 p.1 p.2 ∈ K ∧ (K.idxOf (key2 p.1 p.2) : Int) = n then Classical.choose h else default
theorem sgK_eq {K : List (List UInt8)} {a b : Tr} (h : key2 a b ∈ K) : sgK K (K.idxOf (key2 a b)) = (a, b) := by
  have hex : ∃ p : Tr × Tr, key2 p.1 p.2 ∈ K ∧ (K.idxOf (key2 p.1 p.2) : Int) = ((K.idxOf (key2 a b) : Nat) : Int) := ⟨(a, b), h, rfl⟩
  rw [sgK, dif_pos hex]
  obtain ⟨h1, h2⟩ := Classical.choose_spec hex
  generalize Classical.choose hex = p at *
  have h3 : K.idxOf (key2 p.1 p.2) = K.idxOf (key2 a b) := by omega
  have h4 : key2 p.1 p.2 = key2 a b := by
    have e1 := List.getElem_idxOf (List.idxOf_lt_length_of_mem h1)
    have e2 := List.getElem_idxOf (List.idxOf_lt_length_of_mem h)
    rw [← e1, ← e2]
    congr 1
  obtain ⟨h5, h6⟩ := key2_inj h4
  exact Prod.ext h5 h6
mutual
theorem gfun_left (K : List (List UInt8)) : ∀ t u : Tr, cov K t u → sbs (fun n => (sgK K n).1) (gfun K t u) = t ∧ sbs (fun n => (sgK K n).2) (gfun K t u) = u
  | .node k n s l, u, h => by
    rw [cov] at h
    rw [gfun]
    split
    · rename_i hc
      rw [if_pos hc] at h
      simp only [tV, sbs, if_pos, sgK_eq h]
      exact ⟨trivial, trivial⟩
    · rename_i hc
      rw [if_neg hc] at h
      cases u with
      | node k' n' s' l' =>
      simp only [not_or, Bool.not_eq_false] at hc
      have hll := top_subs hc.2
      have htop := hc.2
      simp only [topT, topB, decide_eq_true_eq] at htop
      obtain ⟨rfl, rfl, rfl, _⟩ := htop
      obtain ⟨h1, h2⟩ := gfunL_left K l l' hll h
      rw [sbs, sbs, if_neg hc.1, if_neg hc.1]
      exact ⟨by rw [show (Tr.node k n s l').subs = l' from rfl, h1], by rw [show (Tr.node k n s l').subs = l' from rfl, h2]⟩
theorem gfunL_left (K : List (List UInt8)) : ∀ l l' : List Tr, l.length = l'.length → covL K l l' → sbsL (fun n => (sgK K n).1) (gfunL K l l') = l ∧ sbsL (fun n => (sgK K n).2) (gfunL K l l') = l'
  | [], [], _, _ => ⟨rfl, rfl⟩
  | [], _ :: _, hl, _ => by simp at hl
  | _ :: _, [], hl, _ => by simp at hl
  | a :: u, b :: v, hl, h => by
    rw [covL] at h
    obtain ⟨h1, h2⟩ := gfun_left K a b h.1
    obtain ⟨h3, h4⟩ := gfunL_left K u v (by simpa using hl) h.2
    rw [gfunL, sbsL, sbsL, h1, h2, h3, h4]
    exact ⟨rfl, rfl⟩
end
theorem gfunL_length (K : List (List UInt8)) : ∀ l l' : List Tr, l.length = l'.length → (gfunL K l l').length = l.length
  | [], [], _ => rfl
  | [], _ :: _, hl => by simp at hl
  | _ :: _, [], hl => by simp at hl
  | a :: u, b :: v, hl => by simp [gfunL, gfunL_length K u v (by simpa using hl)]
theorem good_tV {n : Int} (h : 0 ≤ n) (h' : n < 100000) : (tV n).good = true := by
  have e : emp.toList = [] := by rw [emp, ByteArray.toList, ByteArray.toList.loop, if_neg (by decide)]; rfl
  simp [tV, Tr.good, goodL, nodeB, e, h, h']
mutual
theorem gfun_good (K : List (List UInt8)) (hK : K.length < 100000) : ∀ t u : Tr, t.good = true → cov K t u → (gfun K t u).good = true ∧ (gfun K t u).size ≤ t.size ∧ (gfun K t u).deep ≤ t.deep
  | .node k n s l, u, ht, h => by
    rw [cov] at h
    rw [gfun]
    split
    · rename_i hc
      rw [if_pos hc] at h
      have := List.idxOf_lt_length_of_mem h
      refine ⟨good_tV (by omega) (by omega), ?_, ?_⟩
      · simp only [tV, Tr.size, sizeL]; omega
      · simp only [tV, Tr.deep, deepL]; omega
    · rename_i hc
      rw [if_neg hc] at h
      cases u with
      | node k' n' s' l' =>
      simp only [not_or, Bool.not_eq_false] at hc
      have hll := top_subs hc.2
      simp only [Tr.good, Bool.and_eq_true] at ht ⊢
      obtain ⟨h1, h2, h3⟩ := gfunL_good K hK l l' ht.2 h
      rw [show (Tr.node k' n' s' l').subs = l' from rfl, gfunL_length K l l' hll]
      simp only [Tr.size, Tr.deep]
      exact ⟨⟨ht.1, h1⟩, by omega, by omega⟩
theorem gfunL_good (K : List (List UInt8)) (hK : K.length < 100000) : ∀ l l' : List Tr, goodL l = true → covL K l l' → goodL (gfunL K l l') = true ∧ sizeL (gfunL K l l') ≤ sizeL l ∧ deepL (gfunL K l l') ≤ deepL l
  | [], _, _, _ => by rw [gfunL]; exact ⟨rfl, Nat.le_refl _, Nat.le_refl _⟩
  | _ :: _, [], _, _ => by rw [gfunL]; exact ⟨rfl, Nat.zero_le _, Nat.zero_le _⟩
  | a :: u, b :: v, ht, h => by
    rw [covL] at h
    simp only [goodL, Bool.and_eq_true] at ht
    obtain ⟨h1, h2, h3⟩ := gfun_good K hK a b ht.1 h.1
    obtain ⟨h4, h5, h6⟩ := gfunL_good K hK u v ht.2 h.2
    rw [gfunL]
    simp only [goodL, sizeL, deepL, h1, h4]
    exact ⟨rfl, by omega, by omega⟩
end

theorem gen_form {T U : Tr} (hT : isB T = true) (hU : isB U = true) : ∃ K, genR T U = gfun K T U ∧ cov K T U ∧ K.length ≤ 4000 := by
  have h1 := genT_gfun (genT T U []).2 T U [] (List.prefix_refl _)
  have h2 := genT_keys T U []
  have h3 := (isB_is hT).2.1
  refine ⟨_, ?_, h1.2, ?_⟩
  · rw [genR, hT, hU]; exact h1.1
  · simp only [List.length_nil] at h2; omega
theorem gen_isB {T U : Tr} (hT : isB T = true) (hU : isB U = true) : isB (genR T U) = true := by
  obtain ⟨K, h1, h2, h3⟩ := gen_form hT hU
  obtain ⟨g1, g2, g3⟩ := isB_is hT
  obtain ⟨k1, k2, k3⟩ := gfun_good K (by omega) T U g1 h2
  rw [h1, isB_good, k1]
  simp only [Bool.and_true, Bool.and_eq_true, decide_eq_true_eq]
  omega
theorem gen_left {T U : Tr} (hT : isB T = true) (hU : isB U = true) : inst (genR T U) T ∧ inst (genR T U) U := by
  obtain ⟨K, h1, h2, _⟩ := gen_form hT hU
  rw [h1]
  exact ⟨⟨_, (gfun_left K T U h2).1⟩, _, (gfun_left K T U h2).2⟩
theorem gen_least {T U h : Tr} (hT : isB T = true) (hU : isB U = true) (k1 : inst h T) (k2 : inst h U) : inst h (genR T U) := by
  obtain ⟨K, e, _, _⟩ := gen_form hT hU
  obtain ⟨α, rfl⟩ := k1
  obtain ⟨β, rfl⟩ := k2
  exact ⟨_, (gfun_sbs K α β h).trans e.symm⟩
theorem gen_self {T : Tr} (hT : isB T = true) : varR (genR T T) T = true :=
  (varR_iff (gen_isB hT hT) hT).2 ⟨(gen_left hT hT).1, gen_least hT hT (inst_refl (isB_is hT).1) (inst_refl (isB_is hT).1)⟩
theorem gen_comm {T U : Tr} (hT : isB T = true) (hU : isB U = true) : varR (genR U T) (genR T U) = true :=
  (varR_iff (gen_isB hU hT) (gen_isB hT hU)).2 ⟨gen_least hT hU (gen_left hU hT).2 (gen_left hU hT).1, gen_least hU hT (gen_left hT hU).2 (gen_left hT hU).1⟩
theorem gen_assoc {T U V : Tr} (hT : isB T = true) (hU : isB U = true) (hV : isB V = true) : varR (genR (genR T U) V) (genR T (genR U V)) = true := by
  have hg := gen_isB hT hU
  have hr := gen_isB hU hV
  have h1 := gen_left hg hV
  have h2 := gen_left hT hU
  have h3 := gen_left hT hr
  have h4 := gen_left hU hV
  refine (varR_iff (gen_isB hg hV) (gen_isB hT hr)).2 ⟨gen_least hT hr (inst_trans h1.1 h2.1) (gen_least hU hV (inst_trans h1.1 h2.2) h1.2), gen_least hg hV (gen_least hT hU h3.1 (inst_trans h3.2 h4.1)) (inst_trans h3.2 h4.2)⟩
end Go.Proofs.YtdigiaigbcfccaaGreatDoor
