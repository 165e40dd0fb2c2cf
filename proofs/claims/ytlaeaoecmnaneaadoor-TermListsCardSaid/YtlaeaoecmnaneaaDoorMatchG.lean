/- What the second reading of Match finds, against the first one. No program is named here. -/
import Derived.Test.YtlaeaoecmnaneaaDoorSbs
import Derived.Test.YtlaeaoecmnaneaaDoorNorm
namespace Go.Proofs.YtlaeaoecmnaneaaDoor
open Go.RowKit Go

/-- A list, with free elements behind up to a length. -/
def padT (N : Nat) (l : List Tr) : List Tr := l ++ List.replicate (N - l.length) zeroTr
theorem padT_len (N : Nat) (l : List Tr) : (padT N l).length = max l.length N := by
  simp only [padT, List.length_append, List.length_replicate]
  omega
theorem padT_pad {N M : Nat} (l : List Tr) (h : N ≤ M) : padT M (padT N l) = padT M l := by
  have e := padT_len N l
  unfold padT at e ⊢
  rw [e, List.append_assoc, List.replicate_append_replicate]
  congr 2
  omega
theorem padT_self {N : Nat} {l : List Tr} (h : N ≤ l.length) : padT N l = l := by
  unfold padT
  rw [Nat.sub_eq_zero_of_le h, List.replicate_zero, List.append_nil]
theorem padT_succ {j : Nat} {l : List Tr} (h : l.length ≤ j) : padT (j + 1) l = padT j l ++ [zeroTr] := by
  unfold padT
  rw [Nat.succ_sub h, List.replicate_succ', List.append_assoc]
theorem padT_get {N : Nat} {l : List Tr} {i : Nat} (h : i < N) : (padT N l).getD i default = if i < l.length then l.getD i default else zeroTr := by
  unfold padT
  by_cases e : i < l.length
  · rw [if_pos e]
    simp [List.getD, List.getElem?_append_left e]
  · rw [if_neg e]
    rw [List.getD, List.getElem?_append_right (by omega), List.getElem?_replicate, if_pos (by omega)]
    rfl
theorem padT_mem {N : Nat} {l : List Tr} {x : Tr} (h : x ∈ padT N l) : x ∈ l ∨ x = zeroTr := by
  unfold padT at h
  rcases List.mem_append.1 h with h | h
  · exact .inl h
  · exact .inr (List.eq_of_mem_replicate h)

mutual
def mgT : Tr → Tr → List Tr → List Tr × Bool
  | .node k n s l, t, fs =>
    if k = 1 then (if ((padT (n.toNat + 1) fs).getD n.toNat default).free then ((padT (n.toNat + 1) fs).set n.toNat t, true) else (padT (n.toNat + 1) fs, Tr.beq ((padT (n.toNat + 1) fs).getD n.toNat default) t))
    else if topT (.node k n s l) t then mgL l t.subs fs else (fs, false)
def mgL : List Tr → List Tr → List Tr → List Tr × Bool
  | [], _, fs => (fs, true)
  | _ :: _, [], fs => (fs, false)
  | a :: u, b :: v, fs => if (mgT a b fs).2 then mgL u v (mgT a b fs).1 else mgT a b fs
end
theorem mgL_take : ∀ (l l' : List Tr) (fs : List Tr) (j : Nat) (h : j < l.length) (h' : j < l'.length), (mgL (l.take j) (l'.take j) fs).2 = true → mgL (l.take (j + 1)) (l'.take (j + 1)) fs = mgT l[j] l'[j] (mgL (l.take j) (l'.take j) fs).1
  | a :: u, b :: v, fs, 0, _, _, _ => by
    simp only [List.take_succ_cons, List.take_zero, mgL, List.getElem_cons_zero]
    split
    · rename_i e; rw [← e]
    · rfl
  | a :: u, b :: v, fs, j + 1, h, h', hm => by
    simp only [List.take_succ_cons, mgL, List.getElem_cons_succ] at hm ⊢
    by_cases hab : (mgT a b fs).2 = true
    · rw [if_pos hab] at hm
      rw [if_pos hab, if_pos hab]
      exact mgL_take u v _ j (by simpa using h) (by simpa using h') hm
    · rw [if_neg hab] at hm
      exact absurd hm hab
theorem mgL_stop : ∀ (l l' : List Tr) (fs : List Tr) (j : Nat), j ≤ l.length → l.length = l'.length → (mgL (l.take j) (l'.take j) fs).2 = false → mgL l l' fs = mgL (l.take j) (l'.take j) fs
  | _, _, _, 0, _, _, hm => by simp [mgL] at hm
  | [], [], fs, j + 1, h, _, _ => by simp at h
  | [], _ :: _, _, _ + 1, _, h, _ => by simp at h
  | _ :: _, [], _, _ + 1, _, h, _ => by simp at h
  | a :: u, b :: v, fs, j + 1, h, h', hm => by
    simp only [List.take_succ_cons, mgL] at hm ⊢
    by_cases hab : (mgT a b fs).2 = true
    · rw [if_pos hab] at hm
      rw [if_pos hab, if_pos hab]
      exact mgL_stop u v _ j (by simpa using h) (by simpa using h') hm
    · rw [if_neg hab, if_neg hab]

mutual
/-- One more than the greatest variable; 0, if there is none. -/
def topV : Tr → Nat
  | .node k n _ l => max (if k = 1 then n.toNat + 1 else 0) (topVL l)
def topVL : List Tr → Nat
  | [] => 0
  | t :: ts => max (topV t) (topVL ts)
end
def hiF (m : Int) (x : Int × Tr) : Int := if x.2.kind = 1 then max m x.2.num else m
mutual
theorem hi_topV : ∀ (T : Tr) (d m : Int), posT T → -1 ≤ m → (preT d T).foldl hiF m = max m ((topV T : Int) - 1)
  | .node k n s l, d, m, hp, hm => by
    unfold posT at hp
    rw [preT, List.foldl_cons, topV]
    by_cases hk : k = 1
    · have h0 := hp.1 hk
      have e : hiF m (d, .node k n s l) = max m n := by simp [hiF, Tr.kind, Tr.num, hk]
      rw [e, hi_topVL l (d + 1) _ hp.2 (by omega), if_pos hk]
      omega
    · have e : hiF m (d, .node k n s l) = m := by simp [hiF, Tr.kind, hk]
      rw [e, hi_topVL l (d + 1) _ hp.2 hm, if_neg hk]
      omega
theorem hi_topVL : ∀ (l : List Tr) (d m : Int), posL l → -1 ≤ m → (preL d l).foldl hiF m = max m ((topVL l : Int) - 1)
  | [], d, m, _, hm => by
    simp only [preL, List.foldl_nil, topVL]
    omega
  | t :: ts, d, m, hp, hm => by
    unfold posL at hp
    rw [preL, List.foldl_append, hi_topV t d m hp.1 hm, hi_topVL ts d _ hp.2 (by omega), topVL]
    omega
end
theorem hiT_topV {T : Tr} (h : posT T) : (hiT T + 1).toNat = topV T := by
  have e : hiT T = (preT 1 T).foldl hiF (-1) := rfl
  rw [e, hi_topV T 1 (-1) h (by omega)]
  omega

def zk (x : Tr) : Prop := x = zeroTr ∨ x.kind ≠ 0
theorem zk_free {x : Tr} (h : zk x) : (x.free = true ↔ x.kind = 0) ∧ (x.kind = 0 → x = zeroTr) := by
  rcases h with rfl | h
  · exact ⟨⟨fun _ => rfl, fun _ => by simp [zeroTr, Tr.free, freeB, bytes_toList, emp]⟩, fun _ => rfl⟩
  · refine ⟨⟨fun hf => ?_, fun e => absurd e h⟩, fun e => absurd e h⟩
    cases x with
    | node k n s l =>
    simp only [Tr.free, freeB, Bool.and_eq_true, decide_eq_true_eq] at hf
    exact hf.1.1.1
/-- What the second reading finds is what the first one finds. -/
def Mg (N : Nat) (p t : Tr) (fs : List Tr) : Prop := (mgT p t fs).1.length ≤ N ∧ (∀ x, x ∈ (mgT p t fs).1 → zk x) ∧ matchT p t (padT N fs) = (if (mgT p t fs).2 then some (padT N (mgT p t fs).1) else none) ∧ ((mgT p t fs).2 = true → (mgT p t fs).1.length = max fs.length (topV p))
def MgL (N : Nat) (l l' : List Tr) (fs : List Tr) : Prop := (mgL l l' fs).1.length ≤ N ∧ (∀ x, x ∈ (mgL l l' fs).1 → zk x) ∧ matchL l l' (padT N fs) = (if (mgL l l' fs).2 then some (padT N (mgL l l' fs).1) else none) ∧ ((mgL l l' fs).2 = true → (mgL l l' fs).1.length = max fs.length (topVL l))
mutual
theorem mg_match (N : Nat) : ∀ (p t : Tr) (fs : List Tr), p.good = true → t.good = true → varsIn N p → fs.length ≤ N → (∀ x, x ∈ fs → zk x) → Mg N p t fs
  | .node k n s l, t, fs, hp, ht, hv, hN, hz => by
    unfold varsIn at hv
    unfold Mg
    by_cases hk : k = 1
    · subst hk
      obtain ⟨rfl, rfl, _⟩ := good_var hp
      obtain ⟨h0, h1⟩ := hv.1 rfl
      have hlt : n.toNat < N := by omega
      have hlen := padT_len (n.toNat + 1) fs
      have hg : (padT N fs).getD n.toNat default = (padT (n.toNat + 1) fs).getD n.toNat default := by
        rw [padT_get hlt, padT_get (Nat.lt_succ_self _)]
      have hpz : ∀ x, x ∈ padT (n.toNat + 1) fs → zk x := fun x hx => by
        rcases padT_mem hx with h | h
        · exact hz x h
        · exact .inl h
      have hzk : zk ((padT (n.toNat + 1) fs).getD n.toNat default) := hpz _ (getD_mem (by omega))
      have htop : topV (.node 1 n emp []) = n.toNat + 1 := by simp [topV, topVL]
      rw [mgT, matchT, if_pos rfl, if_pos rfl, hg]
      by_cases hf : ((padT (n.toNat + 1) fs).getD n.toNat default).free = true
      · rw [if_pos hf, if_pos ((zk_free hzk).1.1 hf), if_pos rfl, htop]
        refine ⟨by simp only [List.length_set]; omega, fun x hx => ?_, ?_, fun _ => by simp only [List.length_set]; exact hlen⟩
        · rcases List.mem_or_eq_of_mem_set hx with h | rfl
          · exact hpz x h
          · exact .inr (good_kind ht)
        · rw [Option.some.injEq, ← padT_pad fs (show n.toNat + 1 ≤ N by omega)]
          generalize padT (n.toNat + 1) fs = F at *
          unfold padT
          rw [List.set_append_left _ _ (by omega), List.length_set]
      · rw [if_neg hf, if_neg (fun e => hf ((zk_free hzk).1.2 e)), htop]
        refine ⟨by show (padT (n.toNat + 1) fs).length ≤ N; omega, hpz, ?_, fun _ => hlen⟩
        simp only [padT_pad fs (show n.toNat + 1 ≤ N by omega)]
    · rw [mgT, matchT, if_neg hk, if_neg hk]
      by_cases htop : topT (.node k n s l) t = true
      · rw [if_pos htop, if_pos htop]
        cases t with
        | node k' n' s' l' =>
        simp only [Tr.good, Bool.and_eq_true] at hp ht
        have e : topV (.node k n s l) = topVL l := by simp [topV, hk]
        rw [e]
        exact mgL_match N l l' fs hp.2 ht.2 hv.2 hN (top_subs htop) hz
      · rw [if_neg htop, if_neg htop, if_neg (by simp)]
        exact ⟨hN, hz, rfl, fun h => by cases h⟩
theorem mgL_match (N : Nat) : ∀ (l l' : List Tr) (fs : List Tr), goodL l = true → goodL l' = true → varsInL N l → fs.length ≤ N → l.length = l'.length → (∀ x, x ∈ fs → zk x) → MgL N l l' fs
  | [], [], fs, _, _, _, hN, _, hz => by
    unfold MgL
    rw [mgL, matchL, topVL, if_pos rfl]
    exact ⟨hN, hz, rfl, fun _ => by simp⟩
  | [], _ :: _, _, _, _, _, _, hl, _ => by simp at hl
  | _ :: _, [], _, _, _, _, _, hl, _ => by simp at hl
  | a :: u, b :: v, fs, hp, ht, hv, hN, hl, hz => by
    simp only [goodL, Bool.and_eq_true] at hp ht
    unfold varsInL at hv
    obtain ⟨a1, a2, a3, a4⟩ := mg_match N a b fs hp.1 ht.1 hv.1 hN hz
    unfold MgL
    rw [mgL, matchL, a3]
    by_cases hab : (mgT a b fs).2 = true
    · rw [if_pos hab, if_pos hab]
      obtain ⟨b1, b2, b3, b4⟩ := mgL_match N u v _ hp.2 ht.2 hv.2 a1 (by simpa using hl) a2
      refine ⟨b1, b2, b3, fun h => ?_⟩
      rw [b4 h, a4 hab, topVL]
      omega
    · rw [if_neg hab, if_neg hab]
      exact ⟨a1, a2, rfl, fun h => absurd h hab⟩
end
def mgR (p t : Tr) : Option (List Tr) := if isB p && isB t then (if (mgT p t []).2 then some (mgT p t []).1 else none) else none
theorem mgR_eq (p t : Tr) : mgR p t = matchR p t := by
  unfold mgR matchR
  by_cases h : (isB p && isB t) = true
  · rw [if_pos h, if_pos h]
    rw [Bool.and_eq_true] at h
    have hv := varsIn_slots h.1
    have hs : slots p = padT (topV p) [] := by
      unfold slots padT
      rw [hiT_topV (isB_pos h.1)]
      rfl
    have hl : (slots p).length = topV p := by rw [hs, padT_len]; simp
    rw [hl] at hv
    obtain ⟨_, _, h3, h4⟩ := mg_match (topV p) p t [] (isB_is h.1).1 (isB_is h.2).1 hv (Nat.zero_le _) (fun x hx => by cases hx)
    rw [hs, h3]
    by_cases hm : (mgT p t []).2 = true
    · rw [if_pos hm, if_pos hm]
      have := h4 hm
      rw [padT_self (by rw [this]; exact Nat.le_max_right _ _)]
    · rw [if_neg hm, if_neg hm]
  · rw [if_neg h, if_neg h]

/-- Numbered by the places of its variables in a row, a tree is numbered anew. -/
theorem idx_numV {l : List Tr} {x : Int} (hx : x ∈ varsL [] l) (idx : Int → Int) (h : ∀ y, y ∈ varsL [] l → idx y = ((varsL [] l).idxOf y : Int)) : idx x = numV (varsL [] l) x := by
  rw [h x hx, numV_idx (varsL_nodup l) hx]
theorem ren_congr {f g : Int → Int} {T : Tr} (hT : T.good = true) (h : ∀ x, occ x T → f x = g x) : renT f T = renT g T := by
  rw [← sbs_ren f T hT, ← sbs_ren g T hT]
  exact (sbs_eq T).2 fun x hx => by rw [h x hx]
end Go.Proofs.YtlaeaoecmnaneaaDoor
