import Derived.Test.YtckoecmdaefoiaaDoorHigh
namespace Go.Proofs.YtckoecmdaefoiaaDoor
open Go.RowKit Go

def slots (p : Tr) : List Tr := List.replicate (hiT p + 1).toNat zeroTr
/-- What Match finds. -/
def matchR (p t : Tr) : Option (List Tr) := if isB p && isB t then matchT p t (slots p) else none

theorem made_terms (n i : Nat) (h : i < n) : (madeCells #[.int .i64 0, .int .i64 0, .string ⟨#[]⟩, .slice none 0 0] (n * 4))[i * 4]? = some (Value.int .i64 0) ∧
    (madeCells #[.int .i64 0, .int .i64 0, .string ⟨#[]⟩, .slice none 0 0] (n * 4))[i * 4 + 1]? = some (Value.int .i64 0) ∧ (madeCells #[.int .i64 0, .int .i64 0, .string ⟨#[]⟩, .slice none 0 0] (n * 4))[i * 4 + 2]? = some (Value.string ⟨#[]⟩) ∧
    (madeCells #[.int .i64 0, .int .i64 0, .string ⟨#[]⟩, .slice none 0 0] (n * 4))[i * 4 + 3]? = some (Value.slice none 0 0) := by
  have e0 : i * 4 % 4 = 0 := by omega
  have e1 : (i * 4 + 1) % 4 = 1 := by omega
  have e2 : (i * 4 + 2) % 4 = 2 := by omega
  have e3 : (i * 4 + 3) % 4 = 3 := by omega
  have h0 : i * 4 < n * 4 := by omega
  have h1 : i * 4 + 1 < n * 4 := by omega
  have h2 : i * 4 + 2 < n * 4 := by omega
  have h3 : i * 4 + 3 < n * 4 := by omega
  simp [madeCells, e0, e1, e2, e3, h0, h1, h2, h3]
theorem fnd_made (n₀ : Nat) (W : World) (n : Nat) : Fnd n₀ W (madeCells #[.int .i64 0, .int .i64 0, .string ⟨#[]⟩, .slice none 0 0] (n * 4)) (List.replicate n zeroTr) := by
  refine ⟨by rw [size_madeCells]; simp, fun i hi => ?_⟩
  simp only [List.length_replicate] at hi
  obtain ⟨c0, c1, c2, c3⟩ := made_terms n i hi
  refine ⟨0, 0, emp, [], none, 0, by simp [zeroTr], c0, c1, c2, c3, ?_⟩
  rw [List.getElem_replicate]
  exact IsT.mk (l := []) (by unfold okI; omega) (by unfold okI; omega) (by decide) (Nat.le_refl _) (by decide) IsL.nil
theorem Fnd.isL {n₀ n₁ B : Nat} {W : World} {cs : Array Value} {fs : List Tr} (h : Fnd n₀ W cs fs) (hB : Box W B cs 25) (hn : n₀ ≤ n₁) (hb : B < n₁) : IsL n₁ W fs (some ⟨B, 0, none⟩) :=
  IsL.of_get hb fun i hi => by
    obtain ⟨k, n, s, l, a, c, e, c0, c1, c2, c3, ht⟩ := h.2 i hi
    exact ⟨_, _, _, _, by rw [Nat.zero_add, hB.cell]; exact c0, by rw [Nat.zero_add, hB.cell]; exact c1, by rw [Nat.zero_add, hB.cell]; exact c2, by rw [Nat.zero_add, hB.cell]; exact c3, ht.mono hn⟩

mutual
theorem matchT_sizes {M : Nat} : ∀ (p t : Tr) (fs fs' : List Tr), (∀ x, x ∈ fs → x.size ≤ M) → t.size ≤ M → matchT p t fs = some fs' → ∀ x, x ∈ fs' → x.size ≤ M
  | .node k n s l, t, fs, fs', hf, ht, hm => by
    rw [matchT] at hm
    split at hm
    · split at hm
      · cases hm
        intro x hx
        rcases List.mem_or_eq_of_mem_set hx with h | h
        · exact hf x h
        · rw [h]; exact ht
      · split at hm
        · cases hm; exact hf
        · cases hm
    · split at hm
      · cases t with
        | node k' n' s' l' =>
          exact matchL_sizes l l' fs fs' hf (fun y hy => by have := size_mem hy; simp [Tr.size] at ht; omega) hm
      · cases hm
theorem matchL_sizes {M : Nat} : ∀ (l l' : List Tr) (fs fs' : List Tr), (∀ x, x ∈ fs → x.size ≤ M) → (∀ y, y ∈ l' → y.size ≤ M) → matchL l l' fs = some fs' → ∀ x, x ∈ fs' → x.size ≤ M
  | [], _, fs, fs', hf, _, hm => by rw [matchL] at hm; cases hm; exact hf
  | _ :: _, [], _, _, _, _, hm => by rw [matchL] at hm; cases hm
  | a :: u, b :: v, fs, fs', hf, hl, hm => by
    rw [matchL] at hm
    cases hab : matchT a b fs with
    | none => rw [hab] at hm; cases hm
    | some g =>
      rw [hab] at hm
      exact matchL_sizes u v g fs' (matchT_sizes a b fs g hf (hl b (by simp)) hab) (fun y hy => hl y (by simp [hy])) hm
end

def MatchRes (p t : Tr) (w : World) (e : Ending) (w' : World) : Prop := Below w.heap.size w w' ∧
  match matchR p t with
  | some fs => ∃ v, e = .returned (.tuple #[v, .bool true, .int .i64 0]) ∧ IsPS (New w.heap.size w') w' fs v
  | none => e = .returned (.tuple #[.slice none 0 0, .bool false, .int .i64 (errI (isB p && isB t))])

set_option maxRecDepth 100000 in
set_option maxHeartbeats 2000000 in
theorem Match_any (T U : Tr) (v u : Value) (w : World) (hv : IsT w.heap.size w T v) (hu : IsT w.heap.size w U u) (hdT : T.deep ≤ 999999999) (hdU : U.deep ≤ 999999999) :
    Calls Tryd.prog 49 #[v, u] w (MatchRes T U w) := by
  cases hTc : T with
  | node k n s l =>
  cases hUc : U with
  | node k' n' s' l' =>
  subst hTc hUc
  have hv' := hv
  have hu' := hu
  obtain ⟨a, c, rfl, _⟩ := hv'.open
  obtain ⟨a', c', rfl, _⟩ := hu'.open
  clear hv' hu'
  have HV := Lib.hid hv
  have HU := Lib.hid hu
  clear hv hu
  have b0 : Box (((w.alloc (.cells #[.int .i64 k, .int .i64 n, .string s, .slice a l.length c] 25)).alloc (.cells #[.int .i64 k', .int .i64 n', .string s', .slice a' l'.length c'] 25)).alloc (.cells #[.int .i64 k, .int .i64 n, .string s, .slice a l.length c, .int .i64 k', .int .i64 n', .string s', .slice a' l'.length c'] 25)) w.heap.size #[.int .i64 k, .int .i64 n, .string s, .slice a l.length c] 25 := ((Box.at rfl).alloc _).alloc _
  have b1 : Box (((w.alloc (.cells #[.int .i64 k, .int .i64 n, .string s, .slice a l.length c] 25)).alloc (.cells #[.int .i64 k', .int .i64 n', .string s', .slice a' l'.length c'] 25)).alloc (.cells #[.int .i64 k, .int .i64 n, .string s, .slice a l.length c, .int .i64 k', .int .i64 n', .string s', .slice a' l'.length c'] 25)) (w.heap.size + 1) #[.int .i64 k', .int .i64 n', .string s', .slice a' l'.length c'] 25 := (Box.at (by simp)).alloc _
  have hblk : Box (((w.alloc (.cells #[.int .i64 k, .int .i64 n, .string s, .slice a l.length c] 25)).alloc (.cells #[.int .i64 k', .int .i64 n', .string s', .slice a' l'.length c'] 25)).alloc (.cells #[.int .i64 k, .int .i64 n, .string s, .slice a l.length c, .int .i64 k', .int .i64 n', .string s', .slice a' l'.length c'] 25)) (w.heap.size + 1 + 1) #[.int .i64 k, .int .i64 n, .string s, .slice a l.length c, .int .i64 k', .int .i64 n', .string s', .slice a' l'.length c'] 25 := Box.at (by simp)
  have hB0 := below_a3 (Nat.le_refl w.heap.size) (.cells #[.int .i64 k, .int .i64 n, .string s, .slice a l.length c] 25) (.cells #[.int .i64 k', .int .i64 n', .string s', .slice a' l'.length c'] 25) (.cells #[.int .i64 k, .int .i64 n, .string s, .slice a l.length c, .int .i64 k', .int .i64 n', .string s', .slice a' l'.length c'] 25)
  go_enter Tryd.func49, Tryd.ntmps49
  go_wp2_with fail
  refine (checkEach_any [.node k n s l, .node k' n' s' l'] (some ⟨w.heap.size + 1 + 1, 0, none⟩) 2 _ (by unfold maxLen; simp) ?_ (by intro t ht; simp at ht; rcases ht with rfl | rfl <;> assumption)).mono ?_
  · exact IsL.cons (by simp) (hblk.cell 0) (hblk.cell 1) (hblk.cell 2) (hblk.cell 3) (HV.out.up hB0 (by simp; omega))
      (IsL.cons (by simp) (hblk.cell 4) (hblk.cell 5) (hblk.cell 6) (hblk.cell 7) (HU.out.up hB0 (by simp; omega)) IsL.nil)
  rintro e w1 ⟨rfl, hB1⟩
  have p0 := Box.keep hB1 b0
  have p1 := Box.keep hB1 b1
  have hB2 := hB0.trans (hB1.mono hB0.size)
  have l0 := p0.lt
  have l1 := p1.lt
  have q0 := p0.cell 0
  have q1 := p0.cell 1
  have q2 := p0.cell 2
  have q3 := p0.cell 3
  have r0 := p1.cell 0
  have r1 := p1.cell 1
  have r2 := p1.cell 2
  have r3 := p1.cell 3
  simp only [List.getElem?_toArray, List.getElem?_cons_succ, List.getElem?_cons_zero] at q0 q1 q2 q3 r0 r1 r2 r3
  generalize hEQ : [Tr.node k n s l, Tr.node k' n' s' l'].all isB = bT
  have hbT : Hid (bT = (isB (.node k n s l) && isB (.node k' n' s' l'))) := by rw [Hid, ← hEQ]; simp
  clear hB1 b0 b1 hblk hB0 hEQ
  cases bT with
  | false =>
    have hR : Hid (matchR (.node k n s l) (.node k' n' s' l') = none ∧ errI (isB (.node k n s l) && isB (.node k' n' s' l')) = 3) := by rw [Hid, matchR, ← hbT.out]; exact ⟨rfl, rfl⟩
    go_wp2_with fail
    go_ret3
    refine ⟨hB2, ?_⟩
    rw [hR.out.1, hR.out.2]
    rfl
  | true =>
    have hb1 : isB (.node k n s l) = true ∧ isB (.node k' n' s' l') = true := by have := hbT.out; simpa using this.symm
    have Hb1 := Lib.hid hb1
    have hlo := hiT_lo (.node k n s l)
    have hhi := hiT_le Hb1.out.1
    have hR : Hid (matchR (.node k n s l) (.node k' n' s' l') = matchT (.node k n s l) (.node k' n' s' l') (slots (.node k n s l)) ∧ errI (isB (.node k n s l) && isB (.node k' n' s' l')) = 0) := by
      rw [Hid, matchR, ← hbT.out]; exact ⟨rfl, rfl⟩
    clear hb1 hbT
    go_wp2_with fail
    refine (highest_any (.node k n s l) _ _ (HV.out.up hB2 hB2.size) hdT).mono ?_
    rintro e w2 ⟨rfl, hB3⟩
    have n0 := Box.keep hB3 p0
    have n1 := Box.keep hB3 p1
    have hB4 := hB2.trans (hB3.mono hB2.size)
    obtain ⟨N, hN⟩ : ∃ N : Nat, hiT (.node k n s l) + 1 = N := ⟨(hiT (.node k n s l) + 1).toNat, by omega⟩
    have hNs : Hid (slots (.node k n s l) = List.replicate N zeroTr) := by rw [Hid, slots, hN]; rfl
    have hNle : N ≤ 1000000 := by omega
    have hvars : varsIn N (.node k n s l) := hiT_vars (isB_pos Hb1.out.1) (by omega)
    have Hvars := Lib.hid hvars
    have hmk := fun W => mk_terms N hNle W
    have hh : hiT (.node k n s l) = (N : Int) - 1 := by omega
    have hN0 : 0 ≤ (N : Int) := by omega
    have l2 := n0.lt
    have l3 := n1.lt
    have q0 := n0.cell 0
    have q1 := n0.cell 1
    have q2 := n0.cell 2
    have q3 := n0.cell 3
    have r0 := n1.cell 0
    have r1 := n1.cell 1
    have r2 := n1.cell 2
    have r3 := n1.cell 3
    simp only [List.getElem?_toArray, List.getElem?_cons_succ, List.getElem?_cons_zero] at q0 q1 q2 q3 r0 r1 r2 r3
    rw [hh]
    have he1 : IntKind.i64.wrap ((N : Int) - 1 + 1) = N := by rw [IntKind.wrap_i64]; omega
    have he2 : (N : Int) - 1 + 1 = N := by omega
    clear hB3 p0 p1 hvars hlo hhi hN hh
    go_wp2_with fail
    have hbox : Box (w2.alloc (.cells (madeCells #[.int .i64 0, .int .i64 0, .string ⟨#[]⟩, .slice none 0 0] (N * 4)) 25)) w2.heap.size (madeCells #[.int .i64 0, .int .i64 0, .string ⟨#[]⟩, .slice none 0 0] (N * 4)) 25 := Box.at rfl
    have hB5 := hB4.trans (below_a1 hB4.size (.cells (madeCells #[.int .i64 0, .int .i64 0, .string ⟨#[]⟩, .slice none 0 0] (N * 4)) 25))
    have hlen : (List.replicate N zeroTr).length = N := List.length_replicate
    have hM := match_any w2.heap.size w2.heap.size (.node k n s l) (.node k' n' s' l') (List.replicate N zeroTr) _ _ _ (w2.alloc (.cells (madeCells #[.int .i64 0, .int .i64 0, .string ⟨#[]⟩, .slice none 0 0] (N * 4)) 25)) ((HV.out.below hB5).mono hB4.size) ((HU.out.below hB5).mono hB4.size) (by simp) (Nat.le_refl _) hbox (fnd_made _ _ N) (by rw [hlen]; exact hNle) (by rw [hlen]; exact Hvars.out)
    rw [hlen] at hM
    refine hM.mono ?_
    rintro e w3 ⟨hg, cs', fs', hbx, hfn, hfl, hres⟩
    rw [hlen] at hfl
    have hB6 := hB5.trans (grown_below hg (by have := hB4.size; simp; omega) hB4.size)
    have hl3 := hbx.lt
    have hBN : Hid (Below w.heap.size w w3) := hB6
    have hFN := Lib.hid hfn
    have hBX := Lib.hid hbx
    clear hM hg hbox hB5 hfn hbx hB6
    rcases hres with ⟨rfl, hm⟩ | ⟨rfl, hm⟩
    · have Hm := Lib.hid hm
      clear hm
      go_wp2_with fail
      have hsz : ∀ x, x ∈ fs' → x.size ≤ 1000000 := matchT_sizes _ _ _ _ (fun x hx => by rw [(List.mem_replicate.1 hx).2]; decide) (by have := (isB_size Hb1.out.2).1; omega) Hm.out
      rw [← hfl]
      refine (copyEach_any _ #[] #[] enters_copy fs' _ _ _ (by omega) (hFN.out.isL hBX.out (by omega) hl3) id (fun t ht v W hW hv => by simpa using copyTerm_any t v W hv (hsz t ht))).mono ?_
      rintro e w4 ⟨a4, c4, rfl, h6, h7, hP, hB7⟩
      rw [List.map_id] at hP
      have HP := Lib.hid hP
      have hB8 := Lib.hid (hBN.out.trans (hB7.mono hBN.out.size))
      have hs8 := hBN.out.size
      clear hP hB7
      go_wp2_with fail
      go_ret3
      refine ⟨hB8.out, ?_⟩
      rw [hR.out.1, hNs.out, Hm.out]
      exact ⟨_, rfl, a4, c4, by rw [hfl]; rfl, h6, h7, IsPL.map (fun b hb => ⟨⟨by have := hb.1; omega, hb.2⟩, rfl⟩) _ _ HP.out⟩
    · have Hm := Lib.hid hm
      clear hm
      go_wp2_with fail
      go_ret3
      refine ⟨hBN.out, ?_⟩
      rw [hR.out.1, hNs.out, Hm.out]
      show _ = Ending.returned (.tuple #[.slice none 0 0, .bool false, .int .i64 (errI (isB (.node k n s l) && isB (.node k' n' s' l')))])
      rw [hR.out.2]
      rfl
end Go.Proofs.YtckoecmdaefoiaaDoor
