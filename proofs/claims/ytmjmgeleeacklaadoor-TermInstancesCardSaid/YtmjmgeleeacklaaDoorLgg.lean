/- The least general tree of two. No program is named here. -/
import Derived.Test.YtmjmgeleeacklaaDoorInst
namespace Go.Proofs.YtmjmgeleeacklaaDoor
open Go.RowKit Go

def isDig (c : UInt8) : Bool := decide (48 ≤ c.toNat)
theorem dig_ofNat {d : Nat} (h : d < 10) : (UInt8.ofNat (48 + d)).toNat = 48 + d := by
  rw [UInt8.toNat_ofNat', Nat.mod_eq_of_lt (by omega)]
theorem dec_dig : ∀ u : Nat, (Lib.decDigits u).all isDig = true := by
  intro u
  induction u using Nat.strongRecOn with
  | ind u ih =>
    rw [Lib.decDigits]
    split
    · rename_i h
      simp [isDig]
      omega
    · rename_i h
      rw [List.all_append, ih (u / 10) (by omega)]
      simp [isDig]
      omega
def valD (l : List UInt8) : Nat := l.foldl (fun a c => a * 10 + (c.toNat - 48)) 0
theorem dec_val : ∀ u : Nat, valD (Lib.decDigits u) = u := by
  intro u
  induction u using Nat.strongRecOn with
  | ind u ih =>
    rw [Lib.decDigits]
    split
    · rename_i h
      simp [valD]
      omega
    · rename_i h
      have := ih (u / 10) (by omega)
      simp only [valD] at this
      simp only [valD, List.foldl_append, List.foldl_cons, List.foldl_nil, this, dig_ofNat (Nat.mod_lt u (show 0 < 10 by omega))]
      omega
theorem dec_inj {u v : Nat} (h : Lib.decDigits u = Lib.decDigits v) : u = v := by rw [← dec_val u, h, dec_val]
theorem dec_not {u : Nat} {c : UInt8} (h : c ∈ Lib.decDigits u) : 48 ≤ c.toNat := by
  have := List.all_eq_true.1 (dec_dig u) c h
  simpa [isDig] using this
theorem itoa_inj {x y : Int} (h : Lib.itoa x = Lib.itoa y) : x = y := by
  unfold Lib.itoa at h
  split at h <;> split at h
  · simp only [List.cons.injEq, true_and] at h
    have := dec_inj h
    omega
  · have := dec_not (u := y.toNat) (c := 45) (by rw [← h]; simp)
    simp at this
  · have := dec_not (u := x.toNat) (c := 45) (by rw [h]; simp)
    simp at this
  · have := dec_inj h
    omega
theorem itoa_sp {x : Int} : ¬ (32 : UInt8) ∈ Lib.itoa x := by
  unfold Lib.itoa
  split
  · intro h
    rcases List.mem_cons.1 h with h | h
    · exact absurd h (by decide)
    · have := dec_not h; simp at this
  · intro h
    have := dec_not h; simp at this
theorem split_sp : ∀ {a b r r' : List UInt8}, ¬ (32 : UInt8) ∈ a → ¬ (32 : UInt8) ∈ b → a ++ 32 :: r = b ++ 32 :: r' → a = b ∧ r = r'
  | [], [], r, r', _, _, h => ⟨rfl, by simpa using h⟩
  | [], y :: b, r, r', _, hb, h => by
    simp only [List.nil_append, List.cons_append, List.cons.injEq] at h
    exact absurd (by simp [← h.1]) hb
  | x :: a, [], r, r', ha, _, h => by
    simp only [List.nil_append, List.cons_append, List.cons.injEq] at h
    exact absurd (by simp [h.1]) ha
  | x :: a, y :: b, r, r', ha, hb, h => by
    simp only [List.cons_append, List.cons.injEq] at h
    obtain ⟨h1, h2⟩ := split_sp (fun q => ha (List.mem_cons_of_mem _ q)) (fun q => hb (List.mem_cons_of_mem _ q)) h.2
    exact ⟨by rw [h.1, h1], h2⟩
theorem numT_split {x y : Int} {r r' : List UInt8} (h : numT x ++ r = numT y ++ r') : x = y ∧ r = r' := by
  simp only [numT, List.append_assoc, List.singleton_append] at h
  obtain ⟨h1, h2⟩ := split_sp itoa_sp itoa_sp h
  exact ⟨itoa_inj h1, h2⟩
mutual
/-- No text is the beginning of another one. -/
theorem text_split : ∀ (a b : Tr) (r r' : List UInt8), textT a ++ r = textT b ++ r' → a = b ∧ r = r'
  | .node k n s l, .node k' n' s' l', r, r', h => by
    simp only [textT, List.append_assoc] at h
    obtain ⟨e0, h0⟩ := numT_split h
    obtain ⟨e1', h1⟩ := numT_split h0
    obtain ⟨e1, h2⟩ := numT_split h1
    obtain ⟨e2, h3⟩ := numT_split h2
    clear h h0 h1 h2
    have e3 : s.data.toList.length = s'.data.toList.length := by
      have a1 : s.data.toList.length = s.size := by simp only [ByteArray.size, Array.length_toList]
      have a2 : s'.data.toList.length = s'.size := by simp only [ByteArray.size, Array.length_toList]
      omega
    obtain ⟨e4, h4⟩ := List.append_inj h3 e3
    obtain ⟨e5, h5⟩ := textL_split l l' r r' (by omega) h4
    have e6 : s = s' := by cases s; cases s'; simpa using e4
    exact ⟨by rw [e0, e1', e6, e5], h5⟩
theorem textL_split : ∀ (l l' : List Tr) (r r' : List UInt8), l.length = l'.length → textL l ++ r = textL l' ++ r' → l = l' ∧ r = r'
  | [], [], r, r', _, h => ⟨rfl, by simpa [textL] using h⟩
  | [], _ :: _, _, _, hl, _ => by simp at hl
  | _ :: _, [], _, _, hl, _ => by simp at hl
  | a :: u, b :: v, r, r', hl, h => by
    simp only [textL, List.append_assoc] at h
    obtain ⟨e1, h⟩ := text_split a b _ _ h
    obtain ⟨e2, h⟩ := textL_split u v r r' (by simpa using hl) h
    exact ⟨by rw [e1, e2], h⟩
end
/-- The text of two trees. -/
def key2 (a b : Tr) : List UInt8 := textT a ++ textT b
theorem key2_inj {a b a' b' : Tr} (h : key2 a b = key2 a' b') : a = a' ∧ b = b' := by
  obtain ⟨h1, h2⟩ := text_split a a' _ _ h
  have h3 := text_split b b' [] [] (by simpa using h2)
  exact ⟨h1, h3.1⟩

theorem addK_pre (ks : List (List UInt8)) (key : List UInt8) : ks <+: addK ks key := by
  unfold addK; split
  · exact List.prefix_refl _
  · exact List.prefix_append _ _
theorem addK_mem (ks : List (List UInt8)) (key : List UInt8) : key ∈ addK ks key := by
  unfold addK; split
  · assumption
  · simp
theorem numK_addK (ks : List (List UInt8)) (key : List UInt8) : numK ks key = (addK ks key).idxOf key := by
  unfold numK addK
  split
  · rfl
  · rename_i h
    rw [List.idxOf_append, if_neg h]
    simp
theorem idx_pre {ks K : List (List UInt8)} {key : List UInt8} (h : ks <+: K) (hm : key ∈ ks) : K.idxOf key = ks.idxOf key := by
  obtain ⟨r, rfl⟩ := h
  rw [List.idxOf_append, if_pos hm]
mutual
theorem genT_pre : ∀ (t u : Tr) (ks : List (List UInt8)), ks <+: (genT t u ks).2
  | .node k n s l, u, ks => by
    rw [genT]
    split
    · exact addK_pre _ _
    · exact genL_pre l u.subs ks
theorem genL_pre : ∀ (l l' : List Tr) (ks : List (List UInt8)), ks <+: (genL l l' ks).2
  | [], _, ks => by rw [genL]; exact List.prefix_refl _
  | _ :: _, [], ks => by rw [genL]; exact List.prefix_refl _
  | a :: u, b :: v, ks => by
    rw [genL]
    exact (genT_pre a b ks).trans (genL_pre u v _)
end
mutual
/-- The least general tree, its variables numbered by a list of texts. -/
def gfun (K : List (List UInt8)) : Tr → Tr → Tr
  | .node k n s l, u => if k = 1 ∨ topT (.node k n s l) u = false then tV (K.idxOf (key2 (.node k n s l) u)) else .node k n s (gfunL K l u.subs)
def gfunL (K : List (List UInt8)) : List Tr → List Tr → List Tr
  | [], _ => []
  | _ :: _, [] => []
  | a :: u, b :: v => gfun K a b :: gfunL K u v
end
mutual
/-- The texts of all parts that differ are in the list. -/
def cov (K : List (List UInt8)) : Tr → Tr → Prop
  | .node k n s l, u => if k = 1 ∨ topT (.node k n s l) u = false then key2 (.node k n s l) u ∈ K else covL K l u.subs
def covL (K : List (List UInt8)) : List Tr → List Tr → Prop
  | [], _ => True
  | _ :: _, [] => True
  | a :: u, b :: v => cov K a b ∧ covL K u v
end
mutual
theorem genT_gfun (K : List (List UInt8)) : ∀ (t u : Tr) (ks : List (List UInt8)), (genT t u ks).2 <+: K → (genT t u ks).1 = gfun K t u ∧ cov K t u
  | .node k n s l, u, ks, h => by
    rw [genT] at h ⊢
    rw [gfun, cov]
    split
    · rename_i hc
      rw [if_pos hc] at h
      refine ⟨?_, h.subset (addK_mem _ _)⟩
      show Tr.node 1 (numK ks (key2 (.node k n s l) u)) emp [] = tV _
      rw [numK_addK, tV, ← idx_pre (show addK ks (key2 (.node k n s l) u) <+: K from h) (addK_mem _ _)]
    · rename_i hc
      rw [if_neg hc] at h
      obtain ⟨h1, h2⟩ := genL_gfun K l u.subs ks h
      exact ⟨by rw [h1], h2⟩
theorem genL_gfun (K : List (List UInt8)) : ∀ (l l' : List Tr) (ks : List (List UInt8)), (genL l l' ks).2 <+: K → (genL l l' ks).1 = gfunL K l l' ∧ covL K l l'
  | [], _, ks, h => by rw [genL, gfunL, covL]; exact ⟨rfl, trivial⟩
  | _ :: _, [], ks, h => by rw [genL, gfunL, covL]; exact ⟨rfl, trivial⟩
  | a :: u, b :: v, ks, h => by
    rw [genL] at h ⊢
    rw [gfunL, covL]
    obtain ⟨h1, h2⟩ := genT_gfun K a b ks ((genL_pre u v _).trans h)
    obtain ⟨h3, h4⟩ := genL_gfun K u v _ h
    exact ⟨by rw [h1, h3], h2, h4⟩
end
mutual
/-- It is an instance of each tree of which both are instances. -/
theorem gfun_sbs (K : List (List UInt8)) (α β : Int → Tr) : ∀ h : Tr, sbs (fun n => gfun K (α n) (β n)) h = gfun K (sbs α h) (sbs β h)
  | .node k n s l => by
    rw [sbs, sbs, sbs]
    by_cases hk : k = 1
    · rw [if_pos hk, if_pos hk, if_pos hk]
    · rw [if_neg hk, if_neg hk, if_neg hk, gfun, if_neg (by simp [hk, topT, topB, sbsL_length])]
      rw [gfunL_sbs K α β l]
      rfl
theorem gfunL_sbs (K : List (List UInt8)) (α β : Int → Tr) : ∀ l : List Tr, sbsL (fun n => gfun K (α n) (β n)) l = gfunL K (sbsL α l) (sbsL β l)
  | [] => rfl
  | t :: ts => by rw [sbsL, sbsL, sbsL, gfunL, gfun_sbs K α β t, gfunL_sbs K α β ts]
end
open Classical in
/-- What stood at the first tree's place, and at the second one's. -/
noncomputable def sgK (K : List (List UInt8)) (n : Int) : Tr × Tr := if h : ∃ p : Tr × Tr, key2 p.1 p.2 ∈ K ∧ (K.idxOf (key2 p.1 p.2) : Int) = n then Classical.choose h else default
theorem sgK_eq {K : List (List UInt8)} {a b : Tr} (h : key2 a b ∈ K) : sgK K (K.idxOf (key2 a b)) = (a, b) := by
  have hex : ∃ p : Tr × Tr, key2 p.1 p.2 ∈ K ∧ (K.idxOf (key2 p.1 p.2) : Int) = ((K.idxOf (key2 a b) : Nat) : Int) := ⟨(a, b), h, rfl⟩
  rw [sgK, dif_pos hex]
  obtain ⟨h1, h2⟩ := Classical.choose_spec hex
  generalize Classical.choose hex = p at *
  have h3 : K.idxOf (key2 p.1 p.2) = K.idxOf (key2 a b) := by omega
  have h4 : key2 p.1 p.2 = key2 a b := by
    have e1 := List.getElem_idxOf (List.idxOf_lt_length_of_mem h1)
    have e2 := List.getElem_idxOf (List.idxOf_lt_length_of_mem h)
    rw [← e1, ← e2]
    congr 1
  obtain ⟨h5, h6⟩ := key2_inj h4
  exact Prod.ext h5 h6
mutual
theorem gfun_left (K : List (List UInt8)) : ∀ t u : Tr, cov K t u → sbs (fun n => (sgK K n).1) (gfun K t u) = t ∧ sbs (fun n => (sgK K n).2) (gfun K t u) = u
  | .node k n s l, u, h => by
    rw [cov] at h
    rw [gfun]
    split
    · rename_i hc
      rw [if_pos hc] at h
      simp only [tV, sbs, if_pos, sgK_eq h]
      exact ⟨trivial, trivial⟩
    · rename_i hc
      rw [if_neg hc] at h
      cases u with
      | node k' n' s' l' =>
      simp only [not_or, Bool.not_eq_false] at hc
      have hll := top_subs hc.2
      have htop := hc.2
      simp only [topT, topB, decide_eq_true_eq] at htop
      obtain ⟨rfl, rfl, rfl, _⟩ := htop
      obtain ⟨h1, h2⟩ := gfunL_left K l l' hll h
      rw [sbs, sbs, if_neg hc.1, if_neg hc.1]
      exact ⟨by rw [show (Tr.node k n s l').subs = l' from rfl, h1], by rw [show (Tr.node k n s l').subs = l' from rfl, h2]⟩
theorem gfunL_left (K : List (List UInt8)) : ∀ l l' : List Tr, l.length = l'.length → covL K l l' → sbsL (fun n => (sgK K n).1) (gfunL K l l') = l ∧ sbsL (fun n => (sgK K n).2) (gfunL K l l') = l'
  | [], [], _, _ => ⟨rfl, rfl⟩
  | [], _ :: _, hl, _ => by simp at hl
  | _ :: _, [], hl, _ => by simp at hl
  | a :: u, b :: v, hl, h => by
    rw [covL] at h
    obtain ⟨h1, h2⟩ := gfun_left K a b h.1
    obtain ⟨h3, h4⟩ := gfunL_left K u v (by simpa using hl) h.2
    rw [gfunL, sbsL, sbsL, h1, h2, h3, h4]
    exact ⟨rfl, rfl⟩
end
theorem gfunL_length (K : List (List UInt8)) : ∀ l l' : List Tr, l.length = l'.length → (gfunL K l l').length = l.length
  | [], [], _ => rfl
  | [], _ :: _, hl => by simp at hl
  | _ :: _, [], hl => by simp at hl
  | a :: u, b :: v, hl => by simp [gfunL, gfunL_length K u v (by simpa using hl)]
theorem good_tV {n : Int} (h : 0 ≤ n) (h' : n < 100000) : (tV n).good = true := by
  have e : emp.toList = [] := by rw [emp, ByteArray.toList, ByteArray.toList.loop, if_neg (by decide)]; rfl
  simp [tV, Tr.good, goodL, nodeB, e, h, h']
mutual
theorem gfun_good (K : List (List UInt8)) (hK : K.length < 100000) : ∀ t u : Tr, t.good = true → cov K t u → (gfun K t u).good = true ∧ (gfun K t u).size ≤ t.size ∧ (gfun K t u).deep ≤ t.deep
  | .node k n s l, u, ht, h => by
    rw [cov] at h
    rw [gfun]
    split
    · rename_i hc
      rw [if_pos hc] at h
      have := List.idxOf_lt_length_of_mem h
      refine ⟨good_tV (by omega) (by omega), ?_, ?_⟩
      · simp only [tV, Tr.size, sizeL]; omega
      · simp only [tV, Tr.deep, deepL]; omega
    · rename_i hc
      rw [if_neg hc] at h
      cases u with
      | node k' n' s' l' =>
      simp only [not_or, Bool.not_eq_false] at hc
      have hll := top_subs hc.2
      simp only [Tr.good, Bool.and_eq_true] at ht ⊢
      obtain ⟨h1, h2, h3⟩ := gfunL_good K hK l l' ht.2 h
      rw [show (Tr.node k' n' s' l').subs = l' from rfl, gfunL_length K l l' hll]
      simp only [Tr.size, Tr.deep]
      exact ⟨⟨ht.1, h1⟩, by omega, by omega⟩
theorem gfunL_good (K : List (List UInt8)) (hK : K.length < 100000) : ∀ l l' : List Tr, goodL l = true → covL K l l' → goodL (gfunL K l l') = true ∧ sizeL (gfunL K l l') ≤ sizeL l ∧ deepL (gfunL K l l') ≤ deepL l
  | [], _, _, _ => by rw [gfunL]; exact ⟨rfl, Nat.le_refl _, Nat.le_refl _⟩
  | _ :: _, [], _, _ => by rw [gfunL]; exact ⟨rfl, Nat.zero_le _, Nat.zero_le _⟩
  | a :: u, b :: v, ht, h => by
    rw [covL] at h
    simp only [goodL, Bool.and_eq_true] at ht
    obtain ⟨h1, h2, h3⟩ := gfun_good K hK a b ht.1 h.1
    obtain ⟨h4, h5, h6⟩ := gfunL_good K hK u v ht.2 h.2
    rw [gfunL]
    simp only [goodL, sizeL, deepL, h1, h4]
    exact ⟨rfl, by omega, by omega⟩
end

theorem gen_form {T U : Tr} (hT : isB T = true) (hU : isB U = true) : ∃ K, genR T U = gfun K T U ∧ cov K T U ∧ K.length ≤ 4000 := by
  have h1 := genT_gfun (genT T U []).2 T U [] (List.prefix_refl _)
  have h2 := genT_keys T U []
  have h3 := (isB_is hT).2.1
  refine ⟨_, ?_, h1.2, ?_⟩
  · rw [genR, hT, hU]; exact h1.1
  · simp only [List.length_nil] at h2; omega
theorem gen_isB {T U : Tr} (hT : isB T = true) (hU : isB U = true) : isB (genR T U) = true := by
  obtain ⟨K, h1, h2, h3⟩ := gen_form hT hU
  obtain ⟨g1, g2, g3⟩ := isB_is hT
  obtain ⟨k1, k2, k3⟩ := gfun_good K (by omega) T U g1 h2
  rw [h1, isB_good, k1]
  simp only [Bool.and_true, Bool.and_eq_true, decide_eq_true_eq]
  omega
theorem gen_left {T U : Tr} (hT : isB T = true) (hU : isB U = true) : inst (genR T U) T ∧ inst (genR T U) U := by
  obtain ⟨K, h1, h2, _⟩ := gen_form hT hU
  rw [h1]
  exact ⟨⟨_, (gfun_left K T U h2).1⟩, _, (gfun_left K T U h2).2⟩
theorem gen_least {T U h : Tr} (hT : isB T = true) (hU : isB U = true) (k1 : inst h T) (k2 : inst h U) : inst h (genR T U) := by
  obtain ⟨K, e, _, _⟩ := gen_form hT hU
  obtain ⟨α, rfl⟩ := k1
  obtain ⟨β, rfl⟩ := k2
  exact ⟨_, (gfun_sbs K α β h).trans e.symm⟩
theorem gen_self {T : Tr} (hT : isB T = true) : varR (genR T T) T = true :=
  (varR_iff (gen_isB hT hT) hT).2 ⟨(gen_left hT hT).1, gen_least hT hT (inst_refl (isB_is hT).1) (inst_refl (isB_is hT).1)⟩
theorem gen_comm {T U : Tr} (hT : isB T = true) (hU : isB U = true) : varR (genR U T) (genR T U) = true :=
  (varR_iff (gen_isB hU hT) (gen_isB hT hU)).2 ⟨gen_least hT hU (gen_left hU hT).2 (gen_left hU hT).1, gen_least hU hT (gen_left hT hU).2 (gen_left hT hU).1⟩
theorem gen_assoc {T U V : Tr} (hT : isB T = true) (hU : isB U = true) (hV : isB V = true) : varR (genR (genR T U) V) (genR T (genR U V)) = true := by
  have hg := gen_isB hT hU
  have hr := gen_isB hU hV
  have h1 := gen_left hg hV
  have h2 := gen_left hT hU
  have h3 := gen_left hT hr
  have h4 := gen_left hU hV
  refine (varR_iff (gen_isB hg hV) (gen_isB hT hr)).2 ⟨gen_least hT hr (inst_trans h1.1 h2.1) (gen_least hU hV (inst_trans h1.1 h2.2) h1.2), gen_least hg hV (gen_least hT hU h3.1 (inst_trans h3.2 h4.1)) (inst_trans h3.2 h4.2)⟩
end Go.Proofs.YtmjmgeleeacklaaDoor
