import Derived.Test.YtckoecmdaefoiaaDoorVars
namespace Go.Proofs.YtckoecmdaefoiaaDoor
open Go.RowKit Go

mutual
/-- The tree with its variables numbered otherwise. -/
def renT (f : Int → Int) : Tr → Tr
  | .node k n s l => .node k (if k = 1 then f n else n) s (renL f l)
def renL (f : Int → Int) : List Tr → List Tr
  | [] => []
  | t :: ts => renT f t :: renL f ts
end
theorem renL_map (f : Int → Int) : ∀ l : List Tr, renL f l = l.map (renT f)
  | [] => rfl
  | t :: ts => by simp [renL, renL_map f ts]

set_option maxRecDepth 100000 in
set_option maxHeartbeats 1000000 in
theorem rename1_any (g : Nat) (first captured : Array Value) (Bn : Nat) (T T' : Tr) (v : Value) (W : World) (hT : IsT W.heap.size W T v) (hn : Box W Bn #[.func (.func g) first captured] 120)
    (hcall : ∀ v' W', Below W.heap.size W W' → IsT W'.heap.size W' T v' → Calls Tryd.prog 96 #[v', .func (.func g) first captured] W' (fun e W2 => ∃ u, e = .returned u ∧ IsP (New W'.heap.size W2) W2 T' u ∧ Below W'.heap.size W' W2)) :
    Calls Tryd.prog 128 #[v, .pointer (some ⟨Bn, 0, none⟩)] W fun e W' => ∃ u, e = .returned u ∧ IsP (New W.heap.size W') W' T' u ∧ Below W.heap.size W W' := by
  cases T with
  | node k n s l =>
  cases T' with
  | node k' n' s' l' =>
  have hT' := hT
  obtain ⟨a, c, rfl, _⟩ := hT'.open
  have cn := hn.cell 0
  simp only [List.getElem?_toArray, List.getElem?_cons_zero] at cn
  have hnl := hn.lt
  have H := Lib.hid hT
  have HC := Lib.hid hcall
  clear hT hT' hcall
  go_enter Tryd.func128, Tryd.ntmps128
  go_wp2_with fail
  have hb2 : Box ((W.alloc (.cells #[.int .i64 k, .int .i64 n, .string s, .slice a l.length c] 25)).alloc (.cells #[.int .i64 0, .int .i64 0, .string ⟨#[]⟩, .slice none 0 0] 25)) (W.heap.size + 1) #[.int .i64 0, .int .i64 0, .string ⟨#[]⟩, .slice none 0 0] 25 := Box.at (by simp)
  have hB0 := below_a2 (Nat.le_refl W.heap.size) (.cells #[.int .i64 k, .int .i64 n, .string s, .slice a l.length c] 25) (.cells #[.int .i64 0, .int .i64 0, .string ⟨#[]⟩, .slice none 0 0] 25)
  refine (HC.out _ _ hB0 (H.out.up hB0 hB0.size)).mono ?_
  rintro e w1 ⟨u, rfl, hP, hB1⟩
  obtain ⟨a', c', rfl, h1, h2, h3, h4, h5, hl⟩ := hP.open
  have hb2' := Box.keep hB1 hb2
  have hB2 := hB0.trans (hB1.mono hB0.size)
  have hsz1 := hB1.size
  simp only [World.size_alloc] at hsz1
  have HP := Lib.hid (And.intro h1 (And.intro h2 (And.intro h3 (And.intro h4 (And.intro h5 hl)))))
  clear hP hb2 hB0 hB1 h1 h2 h3 h4 h5 hl hn
  have g0 := hb2'.frozen 0
  have g1 := hb2'.frozen 1
  have g2 := hb2'.frozen 2
  have g3 := hb2'.frozen 3
  have u0 := hb2'.cell 0
  have u1 := hb2'.cell 1
  have u2 := hb2'.cell 2
  have u3 := hb2'.cell 3
  simp only [List.getElem?_toArray, List.getElem?_cons_succ, List.getElem?_cons_zero] at u0 u1 u2 u3
  go_wp2_with fail
  have z := (((hb2'.set 0 (.int .i64 k')).set 1 (.int .i64 n')).set 2 (.string s')).set 3 (.slice a' l'.length c')
  have zB := (((hB2.setCell (p := ⟨W.heap.size + 1, 0, none⟩) (by simp) (.int .i64 k')).setCell (p := ⟨W.heap.size + 1, 1, none⟩) (by simp) (.int .i64 n')).setCell (p := ⟨W.heap.size + 1, 2, none⟩) (by simp) (.string s')).setCell (p := ⟨W.heap.size + 1, 3, none⟩) (by simp) (.slice a' l'.length c')
  have y0 := z.cell 0
  have y1 := z.cell 1
  have y2 := z.cell 2
  have y3 := z.cell 3
  have zP := IsPL.map (q := New W.heap.size ((((w1.setCell ⟨W.heap.size + 1, 0, none⟩ (.int .i64 k')).setCell ⟨W.heap.size + 1, 1, none⟩ (.int .i64 n')).setCell ⟨W.heap.size + 1, 2, none⟩ (.string s')).setCell ⟨W.heap.size + 1, 3, none⟩ (.slice a' l'.length c'))) (B := ((((w1.setCell ⟨W.heap.size + 1, 0, none⟩ (.int .i64 k')).setCell ⟨W.heap.size + 1, 1, none⟩ (.int .i64 n')).setCell ⟨W.heap.size + 1, 2, none⟩ (.string s')).setCell ⟨W.heap.size + 1, 3, none⟩ (.slice a' l'.length c')))
    (fun b hb => by
      obtain ⟨hb1, hb2⟩ := hb
      simp only [World.size_alloc] at hb1
      refine ⟨⟨by omega, by simpa using hb2⟩, ?_⟩
      rw [Below.heap_setCell _ _ _ _ (by simp; omega), Below.heap_setCell _ _ _ _ (by simp; omega), Below.heap_setCell _ _ _ _ (by simp; omega), Below.heap_setCell _ _ _ _ (by simp; omega)]) l' a' HP.out.2.2.2.2.2
  clear z u0 u1 u2 u3 g0 g1 g2 g3 hb2'
  generalize ((((w1.setCell ⟨W.heap.size + 1, 0, none⟩ (.int .i64 k')).setCell ⟨W.heap.size + 1, 1, none⟩ (.int .i64 n')).setCell ⟨W.heap.size + 1, 2, none⟩ (.string s')).setCell ⟨W.heap.size + 1, 3, none⟩ (.slice a' l'.length c')) = FW at *
  simp at y0 y1 y2 y3
  exact bodyPost_ret (v := .agg #[.int .i64 k', .int .i64 n', .string s', .slice a' l'.length c']) (by simp [results, Tryd.results128, go_sem, y0, y1, y2, y3]) rfl ⟨_, rfl, IsP.mk HP.out.1 HP.out.2.1 HP.out.2.2.1 HP.out.2.2.2.1 HP.out.2.2.2.2.1 zP, zB⟩

set_option maxRecDepth 100000 in
set_option maxHeartbeats 1000000 in
theorem normal2_any (g : Nat) (first captured : Array Value) (Bn : Nat) (T T' : Tr) (v : Value) (W : World) (hT : IsT W.heap.size W T v) (hn : Box W Bn #[.func (.func g) first captured] 120)
    (hcall : ∀ v' W', Below W.heap.size W W' → IsT W'.heap.size W' T v' → Calls Tryd.prog 96 #[v', .func (.func g) first captured] W' (fun e W2 => ∃ u, e = .returned u ∧ IsP (New W'.heap.size W2) W2 T' u ∧ Below W'.heap.size W' W2)) :
    Calls Tryd.prog 104 #[v, .pointer (some ⟨Bn, 0, none⟩)] W fun e W' => ∃ u, e = .returned u ∧ IsP (New W.heap.size W') W' T' u ∧ Below W.heap.size W W' := by
  cases T with
  | node k n s l =>
  cases T' with
  | node k' n' s' l' =>
  have hT' := hT
  obtain ⟨a, c, rfl, _⟩ := hT'.open
  have cn := hn.cell 0
  simp only [List.getElem?_toArray, List.getElem?_cons_zero] at cn
  have hnl := hn.lt
  have H := Lib.hid hT
  have HC := Lib.hid hcall
  clear hT hT' hcall
  go_enter Tryd.func104, Tryd.ntmps104
  go_wp2_with fail
  have hb2 : Box ((W.alloc (.cells #[.int .i64 k, .int .i64 n, .string s, .slice a l.length c] 25)).alloc (.cells #[.int .i64 0, .int .i64 0, .string ⟨#[]⟩, .slice none 0 0] 25)) (W.heap.size + 1) #[.int .i64 0, .int .i64 0, .string ⟨#[]⟩, .slice none 0 0] 25 := Box.at (by simp)
  have hB0 := below_a2 (Nat.le_refl W.heap.size) (.cells #[.int .i64 k, .int .i64 n, .string s, .slice a l.length c] 25) (.cells #[.int .i64 0, .int .i64 0, .string ⟨#[]⟩, .slice none 0 0] 25)
  refine (HC.out _ _ hB0 (H.out.up hB0 hB0.size)).mono ?_
  rintro e w1 ⟨u, rfl, hP, hB1⟩
  obtain ⟨a', c', rfl, h1, h2, h3, h4, h5, hl⟩ := hP.open
  have hb2' := Box.keep hB1 hb2
  have hB2 := hB0.trans (hB1.mono hB0.size)
  have hsz1 := hB1.size
  simp only [World.size_alloc] at hsz1
  have HP := Lib.hid (And.intro h1 (And.intro h2 (And.intro h3 (And.intro h4 (And.intro h5 hl)))))
  clear hP hb2 hB0 hB1 h1 h2 h3 h4 h5 hl hn
  have g0 := hb2'.frozen 0
  have g1 := hb2'.frozen 1
  have g2 := hb2'.frozen 2
  have g3 := hb2'.frozen 3
  have u0 := hb2'.cell 0
  have u1 := hb2'.cell 1
  have u2 := hb2'.cell 2
  have u3 := hb2'.cell 3
  simp only [List.getElem?_toArray, List.getElem?_cons_succ, List.getElem?_cons_zero] at u0 u1 u2 u3
  go_wp2_with fail
  have z := (((hb2'.set 0 (.int .i64 k')).set 1 (.int .i64 n')).set 2 (.string s')).set 3 (.slice a' l'.length c')
  have zB := (((hB2.setCell (p := ⟨W.heap.size + 1, 0, none⟩) (by simp) (.int .i64 k')).setCell (p := ⟨W.heap.size + 1, 1, none⟩) (by simp) (.int .i64 n')).setCell (p := ⟨W.heap.size + 1, 2, none⟩) (by simp) (.string s')).setCell (p := ⟨W.heap.size + 1, 3, none⟩) (by simp) (.slice a' l'.length c')
  have y0 := z.cell 0
  have y1 := z.cell 1
  have y2 := z.cell 2
  have y3 := z.cell 3
  have zP := IsPL.map (q := New W.heap.size ((((w1.setCell ⟨W.heap.size + 1, 0, none⟩ (.int .i64 k')).setCell ⟨W.heap.size + 1, 1, none⟩ (.int .i64 n')).setCell ⟨W.heap.size + 1, 2, none⟩ (.string s')).setCell ⟨W.heap.size + 1, 3, none⟩ (.slice a' l'.length c'))) (B := ((((w1.setCell ⟨W.heap.size + 1, 0, none⟩ (.int .i64 k')).setCell ⟨W.heap.size + 1, 1, none⟩ (.int .i64 n')).setCell ⟨W.heap.size + 1, 2, none⟩ (.string s')).setCell ⟨W.heap.size + 1, 3, none⟩ (.slice a' l'.length c')))
    (fun b hb => by
      obtain ⟨hb1, hb2⟩ := hb
      simp only [World.size_alloc] at hb1
      refine ⟨⟨by omega, by simpa using hb2⟩, ?_⟩
      rw [Below.heap_setCell _ _ _ _ (by simp; omega), Below.heap_setCell _ _ _ _ (by simp; omega), Below.heap_setCell _ _ _ _ (by simp; omega), Below.heap_setCell _ _ _ _ (by simp; omega)]) l' a' HP.out.2.2.2.2.2
  clear z u0 u1 u2 u3 g0 g1 g2 g3 hb2'
  generalize ((((w1.setCell ⟨W.heap.size + 1, 0, none⟩ (.int .i64 k')).setCell ⟨W.heap.size + 1, 1, none⟩ (.int .i64 n')).setCell ⟨W.heap.size + 1, 2, none⟩ (.string s')).setCell ⟨W.heap.size + 1, 3, none⟩ (.slice a' l'.length c')) = FW at *
  simp at y0 y1 y2 y3
  exact bodyPost_ret (v := .agg #[.int .i64 k', .int .i64 n', .string s', .slice a' l'.length c']) (by simp [results, Tryd.results104, go_sem, y0, y1, y2, y3]) rfl ⟨_, rfl, IsP.mk HP.out.1 HP.out.2.1 HP.out.2.2.1 HP.out.2.2.2.1 HP.out.2.2.2.2.1 zP, zB⟩

theorem enters_rename1 : ∀ args w, (callFunc 128 args).run Tryd.prog w = .ok (.enter 128 args) w := enters_of Tryd.func128 (by kernel_rfl) rfl

set_option maxRecDepth 100000 in
set_option maxHeartbeats 2000000 in
/-- number: a function that hands back f x and leaves what there was. -/
theorem rename_any (g : Nat) (first captured : Array Value) (he : ∀ args w, (callFunc g args).run Tryd.prog w = .ok (.enter g args) w) (f : Int → Int) (hf : ∀ x, okI (f x)) (wz : World)
    (hM : ∀ (x : Int) (W : World), okI x → Below wz.heap.size wz W → Calls Tryd.prog g (first.push (.int .i64 x) ++ captured) W fun e W' => e = .returned (.int .i64 (f x)) ∧ Below W.heap.size W W') (T : Tr) :
    ∀ (v : Value) (w : World), Below wz.heap.size wz w → IsT w.heap.size w T v → T.size ≤ 1000000 → Calls Tryd.prog 96 #[v, .func (.func g) first captured] w fun e w' => ∃ v', e = .returned v' ∧ IsP (New w.heap.size w') w' (renT f T) v' ∧ Below w.heap.size w w' := by
  induction T using Tr.ind with
  | h k n s l ih =>
  intro v w hBw hT hsz
  obtain ⟨a, c, rfl, h1, h2, h3, h4, h5, hl⟩ := hT.open
  simp only [Tr.size] at hsz
  have hlen := length_le_sizeL l
  have HI := Lib.hid ih
  have H := Lib.hid (And.intro h1 (And.intro h2 h3))
  have HL := Lib.hid hl
  have HM := Lib.hid hM
  clear ih hT h1 h3 hl hM
  have hbt : Box (((w.alloc (.cells #[.int .i64 k, .int .i64 n, .string s, .slice a l.length c] 25)).alloc (.cells #[.func (.func g) first captured] 120)).alloc (.cells #[.int .i64 0, .int .i64 0, .string ⟨#[]⟩, .slice none 0 0] 25)) w.heap.size #[.int .i64 k, .int .i64 n, .string s, .slice a l.length c] 25 := ((Box.at rfl).alloc _).alloc _
  have hbn : Box (((w.alloc (.cells #[.int .i64 k, .int .i64 n, .string s, .slice a l.length c] 25)).alloc (.cells #[.func (.func g) first captured] 120)).alloc (.cells #[.int .i64 0, .int .i64 0, .string ⟨#[]⟩, .slice none 0 0] 25)) (w.heap.size + 1) #[.func (.func g) first captured] 120 := (Box.at (by simp)).alloc _
  have hbr : Box (((w.alloc (.cells #[.int .i64 k, .int .i64 n, .string s, .slice a l.length c] 25)).alloc (.cells #[.func (.func g) first captured] 120)).alloc (.cells #[.int .i64 0, .int .i64 0, .string ⟨#[]⟩, .slice none 0 0] 25)) (w.heap.size + 1 + 1) #[.int .i64 0, .int .i64 0, .string ⟨#[]⟩, .slice none 0 0] 25 := Box.at (by simp)
  have hB0 := below_a3 (Nat.le_refl w.heap.size) (.cells #[.int .i64 k, .int .i64 n, .string s, .slice a l.length c] 25) (.cells #[.func (.func g) first captured] 120) (.cells #[.int .i64 0, .int .i64 0, .string ⟨#[]⟩, .slice none 0 0] 25)
  by_cases hk : k = 1
  · subst hk
    have hR : Hid (renT f (.node 1 n s l) = .node 1 (f n) s (l.map (renT f))) := by rw [Hid, renT, renL_map]; simp
    have HNN : okI (f n) := hf n
    go_enter Tryd.func96, Tryd.ntmps96
    go_wp2_with fail
    refine (HM.out n _ h2 (hBw.trans (hB0.mono hBw.size))).mono ?_
    rintro e w0 ⟨rfl, hBc⟩
    replace hbt := Box.keep hBc hbt
    replace hbn := Box.keep hBc hbn
    replace hbr := Box.keep hBc hbr
    replace hB0 := hB0.trans (hBc.mono hB0.size)
    have hs0 := hBc.size
    simp only [World.size_alloc] at hs0
    clear hBc
    have t0 := hbt.cell 0
    have t1 := hbt.cell 1
    have t2 := hbt.cell 2
    have t3 := hbt.cell 3
    have ft := hbt.frozen 1
    simp only [List.getElem?_toArray, List.getElem?_cons_succ, List.getElem?_cons_zero] at t0 t1 t2 t3
    replace hbn := hbn.other (B' := w.heap.size) (by omega) 1 (.int .i64 (f n))
    replace hbr := hbr.other (B' := w.heap.size) (by omega) 1 (.int .i64 (f n))
    replace hbt : Box (w0.setCell ⟨w.heap.size, 1, none⟩ (.int .i64 (f n))) w.heap.size #[.int .i64 1, .int .i64 (f n), .string s, .slice a l.length c] 25 := by simpa using hbt.set 1 (.int .i64 (f n))
    replace hB0 := hB0.setCell (p := ⟨w.heap.size, 1, none⟩) (Nat.le_refl _) (.int .i64 (f n))
    have hsW : w.heap.size + 3 ≤ (w0.setCell ⟨w.heap.size, 1, none⟩ (.int .i64 (f n))).heap.size := by simp; omega
    go_wp2_with fail
    refine (copyEach_any 128 #[] #[.pointer (some ⟨w.heap.size + 1, 0, none⟩)] enters_rename1 l a c _ (by omega) (HL.out.up hB0 hB0.size) (renT f) (fun t ht v W' hW hv => by
      have h := rename1_any g first captured (w.heap.size + 1) t (renT f t) v W' hv (Box.keep hW hbn) (fun v' W2 hW2 hv' => HI.out t ht v' W2 (hBw.trans ((hB0.mono (Nat.le_refl _)).mono hBw.size) |>.trans (hW.mono (Nat.le_trans hBw.size hB0.size)) |>.trans (hW2.mono (Nat.le_trans (Nat.le_trans hBw.size hB0.size) hW.size))) hv' (by have := size_mem ht; omega))
      simpa using h)).mono ?_
    rintro e w1 ⟨a', c', rfl, h6, h7, hP, hB1⟩
    have hb1' := Box.keep hB1 hbt
    have hb2' := Box.keep hB1 hbr
    have hB2 := hB0.trans (hB1.mono hB0.size)
    have hsz1 := hB1.size
    have HP := Lib.hid hP
    clear hP hbt hbr hbn hB0 hB1
    have r0 := hb1'.cell 0
    have r1 := hb1'.cell 1
    have r2 := hb1'.cell 2
    have r3 := hb1'.cell 3
    have f3 := hb1'.frozen 3
    have u0 := hb2'.cell 0
    have u1 := hb2'.cell 1
    have u2 := hb2'.cell 2
    have u3 := hb2'.cell 3
    have g0 := hb2'.frozen 0
    have g1 := hb2'.frozen 1
    have g2 := hb2'.frozen 2
    have g3 := hb2'.frozen 3
    simp only [List.getElem?_toArray, List.getElem?_cons_succ, List.getElem?_cons_zero] at r0 r1 r2 r3 u0 u1 u2 u3
    go_wp2_with fail
    have z := ((((hb2'.other (B' := w.heap.size) (by omega) 3 (.slice a' l.length c')).set 0 (.int .i64 1)).set 1 (.int .i64 (f n))).set 2 (.string s)).set 3 (.slice a' l.length c')
    have zB := ((((hB2.setCell (p := ⟨w.heap.size, 3, none⟩) (Nat.le_refl _) (.slice a' l.length c')).setCell (p := ⟨w.heap.size + 1 + 1, 0, none⟩) (by simp; omega) (.int .i64 1)).setCell (p := ⟨w.heap.size + 1 + 1, 1, none⟩) (by simp; omega) (.int .i64 (f n))).setCell (p := ⟨w.heap.size + 1 + 1, 2, none⟩) (by simp; omega) (.string s)).setCell (p := ⟨w.heap.size + 1 + 1, 3, none⟩) (by simp; omega) (.slice a' l.length c')
    have y0 := z.cell 0
    have y1 := z.cell 1
    have y2 := z.cell 2
    have y3 := z.cell 3
    have zP := IsPL.map (q := New w.heap.size (((((w1.setCell ⟨w.heap.size, 3, none⟩ (.slice a' l.length c')).setCell ⟨w.heap.size + 1 + 1, 0, none⟩ (.int .i64 1)).setCell ⟨w.heap.size + 1 + 1, 1, none⟩ (.int .i64 (f n))).setCell ⟨w.heap.size + 1 + 1, 2, none⟩ (.string s)).setCell ⟨w.heap.size + 1 + 1, 3, none⟩ (.slice a' l.length c'))) (B := ((((w1.setCell ⟨w.heap.size, 3, none⟩ (.slice a' l.length c')).setCell ⟨w.heap.size + 1 + 1, 0, none⟩ (.int .i64 1)).setCell ⟨w.heap.size + 1 + 1, 1, none⟩ (.int .i64 (f n))).setCell ⟨w.heap.size + 1 + 1, 2, none⟩ (.string s)).setCell ⟨w.heap.size + 1 + 1, 3, none⟩ (.slice a' l.length c'))
      (fun b hb => by
        obtain ⟨hb1, hb2⟩ := hb
        refine ⟨⟨by omega, by simpa using hb2⟩, ?_⟩
        rw [Below.heap_setCell _ _ _ _ (by simp; omega), Below.heap_setCell _ _ _ _ (by simp; omega), Below.heap_setCell _ _ _ _ (by simp; omega), Below.heap_setCell _ _ _ _ (by simp; omega), Below.heap_setCell _ _ _ _ (by simp; omega)]) (l.map (renT f)) a' HP.out
    clear z HP r0 r1 r2 r3 f3 u0 u1 u2 u3 g0 g1 g2 g3 hb1' hb2'
    generalize ((((w1.setCell ⟨w.heap.size, 3, none⟩ (.slice a' l.length c')).setCell ⟨w.heap.size + 1 + 1, 0, none⟩ (.int .i64 1)).setCell ⟨w.heap.size + 1 + 1, 1, none⟩ (.int .i64 (f n))).setCell ⟨w.heap.size + 1 + 1, 2, none⟩ (.string s)).setCell ⟨w.heap.size + 1 + 1, 3, none⟩ (.slice a' l.length c') = FW at *
    simp at y0 y1 y2 y3
    refine bodyPost_ret (v := .agg #[.int .i64 1, .int .i64 (f n), .string s, .slice a' l.length c']) (by simp [results, Tryd.results96, go_sem, y0, y1, y2, y3]) rfl ⟨_, rfl, ?_, zB⟩
    have hl2 : l.length = (l.map (renT f)).length := by simp
    rw [hR.out, hl2]
    exact IsP.mk H.out.1 HNN H.out.2.2 (by simpa using h6) h7 zP
  · have hR : Hid (renT f (.node k n s l) = .node k n s (l.map (renT f))) := by rw [Hid, renT, renL_map]; simp [hk]
    have hk' : (k == 1) = false := by simpa using hk
    have HNN : okI n := h2
    have hsW : w.heap.size + 3 ≤ (((w.alloc (.cells #[.int .i64 k, .int .i64 n, .string s, .slice a l.length c] 25)).alloc (.cells #[.func (.func g) first captured] 120)).alloc (.cells #[.int .i64 0, .int .i64 0, .string ⟨#[]⟩, .slice none 0 0] 25)).heap.size := by simp
    have HK := Lib.hid hk
    clear hk
    go_enter Tryd.func96, Tryd.ntmps96
    go_wp2_with fail
    refine (copyEach_any 128 #[] #[.pointer (some ⟨w.heap.size + 1, 0, none⟩)] enters_rename1 l a c _ (by omega) (HL.out.up hB0 hB0.size) (renT f) (fun t ht v W' hW hv => by
      have h := rename1_any g first captured (w.heap.size + 1) t (renT f t) v W' hv (Box.keep hW hbn) (fun v' W2 hW2 hv' => HI.out t ht v' W2 (hBw.trans ((hB0.mono (Nat.le_refl _)).mono hBw.size) |>.trans (hW.mono (Nat.le_trans hBw.size hB0.size)) |>.trans (hW2.mono (Nat.le_trans (Nat.le_trans hBw.size hB0.size) hW.size))) hv' (by have := size_mem ht; omega))
      simpa using h)).mono ?_
    rintro e w1 ⟨a', c', rfl, h6, h7, hP, hB1⟩
    have hb1' := Box.keep hB1 hbt
    have hb2' := Box.keep hB1 hbr
    have hB2 := hB0.trans (hB1.mono hB0.size)
    have hsz1 := hB1.size
    have HP := Lib.hid hP
    clear hP hbt hbr hbn hB0 hB1
    have r0 := hb1'.cell 0
    have r1 := hb1'.cell 1
    have r2 := hb1'.cell 2
    have r3 := hb1'.cell 3
    have f3 := hb1'.frozen 3
    have u0 := hb2'.cell 0
    have u1 := hb2'.cell 1
    have u2 := hb2'.cell 2
    have u3 := hb2'.cell 3
    have g0 := hb2'.frozen 0
    have g1 := hb2'.frozen 1
    have g2 := hb2'.frozen 2
    have g3 := hb2'.frozen 3
    simp only [List.getElem?_toArray, List.getElem?_cons_succ, List.getElem?_cons_zero] at r0 r1 r2 r3 u0 u1 u2 u3
    go_wp2_with fail
    have z := ((((hb2'.other (B' := w.heap.size) (by omega) 3 (.slice a' l.length c')).set 0 (.int .i64 k)).set 1 (.int .i64 n)).set 2 (.string s)).set 3 (.slice a' l.length c')
    have zB := ((((hB2.setCell (p := ⟨w.heap.size, 3, none⟩) (Nat.le_refl _) (.slice a' l.length c')).setCell (p := ⟨w.heap.size + 1 + 1, 0, none⟩) (by simp; omega) (.int .i64 k)).setCell (p := ⟨w.heap.size + 1 + 1, 1, none⟩) (by simp; omega) (.int .i64 n)).setCell (p := ⟨w.heap.size + 1 + 1, 2, none⟩) (by simp; omega) (.string s)).setCell (p := ⟨w.heap.size + 1 + 1, 3, none⟩) (by simp; omega) (.slice a' l.length c')
    have y0 := z.cell 0
    have y1 := z.cell 1
    have y2 := z.cell 2
    have y3 := z.cell 3
    have zP := IsPL.map (q := New w.heap.size (((((w1.setCell ⟨w.heap.size, 3, none⟩ (.slice a' l.length c')).setCell ⟨w.heap.size + 1 + 1, 0, none⟩ (.int .i64 k)).setCell ⟨w.heap.size + 1 + 1, 1, none⟩ (.int .i64 n)).setCell ⟨w.heap.size + 1 + 1, 2, none⟩ (.string s)).setCell ⟨w.heap.size + 1 + 1, 3, none⟩ (.slice a' l.length c'))) (B := ((((w1.setCell ⟨w.heap.size, 3, none⟩ (.slice a' l.length c')).setCell ⟨w.heap.size + 1 + 1, 0, none⟩ (.int .i64 k)).setCell ⟨w.heap.size + 1 + 1, 1, none⟩ (.int .i64 n)).setCell ⟨w.heap.size + 1 + 1, 2, none⟩ (.string s)).setCell ⟨w.heap.size + 1 + 1, 3, none⟩ (.slice a' l.length c'))
      (fun b hb => by
        obtain ⟨hb1, hb2⟩ := hb
        refine ⟨⟨by omega, by simpa using hb2⟩, ?_⟩
        rw [Below.heap_setCell _ _ _ _ (by simp; omega), Below.heap_setCell _ _ _ _ (by simp; omega), Below.heap_setCell _ _ _ _ (by simp; omega), Below.heap_setCell _ _ _ _ (by simp; omega), Below.heap_setCell _ _ _ _ (by simp; omega)]) (l.map (renT f)) a' HP.out
    clear z HP r0 r1 r2 r3 f3 u0 u1 u2 u3 g0 g1 g2 g3 hb1' hb2'
    generalize ((((w1.setCell ⟨w.heap.size, 3, none⟩ (.slice a' l.length c')).setCell ⟨w.heap.size + 1 + 1, 0, none⟩ (.int .i64 k)).setCell ⟨w.heap.size + 1 + 1, 1, none⟩ (.int .i64 n)).setCell ⟨w.heap.size + 1 + 1, 2, none⟩ (.string s)).setCell ⟨w.heap.size + 1 + 1, 3, none⟩ (.slice a' l.length c') = FW at *
    simp at y0 y1 y2 y3
    refine bodyPost_ret (v := .agg #[.int .i64 k, .int .i64 n, .string s, .slice a' l.length c']) (by simp [results, Tryd.results96, go_sem, y0, y1, y2, y3]) rfl ⟨_, rfl, ?_, zB⟩
    have hl2 : l.length = (l.map (renT f)).length := by simp
    rw [hR.out, hl2]
    exact IsP.mk H.out.1 HNN H.out.2.2 (by simpa using h6) h7 zP
end Go.Proofs.YtckoecmdaefoiaaDoor
