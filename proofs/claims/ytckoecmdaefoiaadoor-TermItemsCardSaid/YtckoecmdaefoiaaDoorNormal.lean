import Derived.Laws.EntriesVeiled
import Derived.Test.YtckoecmdaefoiaaDoorRename
namespace Go.Proofs.YtckoecmdaefoiaaDoor
open Go.RowKit Go Go.Maps

/-- Block b is a map that says f of all numbers. -/
def NumM (W : World) (b n : Nat) (f : Int → Int) : Prop := ∃ D : DataW Unit, W.ownsMap Tryd.prog 3 (plainElem Tryd.prog 3) b n D ∧ ∀ x, okI x → D.atKey (.int .i64 x) (.lit (.int .i64 0)) = .lit (.int .i64 (f x))
theorem NumM.made (w : World) : NumM (w.alloc (.map #[] 0)) w.heap.size 0 (fun _ => 0) := ⟨_, World.ownsMap_made w _ _ _, fun x _ => by simp [DataW.atKey]⟩
theorem NumM.lt {W : World} {b n : Nat} {f : Int → Int} (h : NumM W b n f) : b < W.heap.size := by obtain ⟨D, h, _⟩ := h; exact h.lt
theorem NumM.kept {W W' : World} {b n : Nat} {f : Int → Int} {row : Option Nat} (h : NumM W b n f) (hg : W.grownBy W' row) (hne : some b ≠ row) : NumM W' b n f := by
  obtain ⟨D, h, hf⟩ := h; exact ⟨D, h.kept hg hne, hf⟩
theorem NumM.look {W : World} {b n : Nat} {f : Int → Int} (h : NumM W b n f) {x : Int} (hx : okI x) : (Instr.lookup 123 (.map (some b)) (.int .i64 x) false).run Tryd.prog W = .ok (.int .i64 (f x)) W := by
  obtain ⟨D, h, hf⟩ := h
  obtain ⟨c, hr, hc, _⟩ := h.lookup_int keyI Tryd.underlying123 Tryd.underlying3 (zeroI W) (keyOf_int_mk Tryd.underlying3 (wfI hx))
  rw [hf x hx] at hc
  cases hc
  exact hr
/-- f, but i at x. -/
def numU (f : Int → Int) (x i : Int) : Int → Int := fun y => if y = x then i else f y
theorem NumM.put {W : World} {b n : Nat} {f : Int → Int} (h : NumM W b n f) (hn : n < maxLen) {x i : Int} (hx : okI x) (hi : okI i) : ∃ w', (Instr.mapUpdate 123 (.map (some b)) (.int .i64 x) (.int .i64 i)).run Tryd.prog W = .ok () w' ∧ NumM w' b (n + 1) (numU f x i) ∧ W.grownBy w' (some b) := by
  obtain ⟨D, h, hf⟩ := h
  obtain ⟨w', hr, h2, hg⟩ := h.update keyI Tryd.underlying123 hn (keyOf_int_mk Tryd.underlying3 (wfI hx)) (plainElem_int Tryd.underlying3 (wfI hi))
  refine ⟨w', hr, ⟨_, h2, fun y hy => ?_⟩, hg⟩
  have hD : IsMap D := by obtain ⟨es, clock, _, _, _, e⟩ := h; exact ⟨_, e⟩
  by_cases e : y = x
  · subst e
    rw [atKey_put_same hD (by simp [WideAt.IsKeyLit])]
    simp [numU]
  · rw [atKey_put_other (fun h => by cases h; exact e rfl), hf y hy]
    simp [numU, e]
theorem NumM.not_box {W : World} {b n B : Nat} {f : Int → Int} {cs : Array Value} {t : TypeId} (h : NumM W b n f) (hB : Box W B cs t) : B ≠ b := fun e => by
  subst e
  obtain ⟨D, ⟨es, clock, hm, _⟩, _⟩ := h
  rw [show W.heap[B]? = some _ from hB] at hm
  cases hm

/-- Each number of the list to its index. -/
def numAt (f : Int → Int) (i : Int) : List Int → Int → Int
  | [] => f
  | x :: xs => numAt (numU f x i) (i + 1) xs
def numV (vs : List Int) : Int → Int := numAt (fun _ => 0) 0 vs
theorem numAt_snoc : ∀ (xs : List Int) (f : Int → Int) (i x : Int), numAt f i (xs ++ [x]) = numU (numAt f i xs) x (i + xs.length)
  | [], f, i, x => by simp [numAt]
  | y :: ys, f, i, x => by
    simp only [List.cons_append, numAt, List.length_cons]
    rw [numAt_snoc ys]
    congr 1
    omega
theorem numV_take {vs : List Int} {j : Nat} (h : j < vs.length) : numV (vs.take (j + 1)) = numU (numV (vs.take j)) (vs.getD j 0) j := by
  rw [numV, List.take_succ_eq_append_getElem h, numAt_snoc, List.length_take, Nat.min_eq_left (Nat.le_of_lt h), numV]
  simp [List.getD, List.getElem?_eq_getElem h]
theorem numAt_le (M : Int) : ∀ (xs : List Int) (f : Int → Int) (i : Int), 0 ≤ i → i + xs.length ≤ M → (∀ x, 0 ≤ f x ∧ f x ≤ M) → ∀ x, 0 ≤ numAt f i xs x ∧ numAt f i xs x ≤ M
  | [], f, i, _, _, h, x => h x
  | y :: ys, f, i, h0, h1, h, x => by
    simp only [List.length_cons] at h1
    refine numAt_le M ys _ _ (by omega) (by omega) (fun z => ?_) x
    unfold numU
    split
    · omega
    · exact h z
theorem varsL_length (l : List Tr) : (varsL [] l).length ≤ sizeL l := by
  suffices h : ∀ (l : List Tr) (S : List Int), (varsL S l).length ≤ S.length + sizeL l by simpa using h l []
  intro l
  induction l with
  | nil => intro S; simp [varsL, sizeL]
  | cons t ts ih =>
    intro S
    have h1 := ih (varsP S (preT 1 t))
    have h2 := varsP_length S (preT 1 t)
    rw [preT_length] at h2
    simp only [varsL, List.foldl_cons, sizeL] at h1 ⊢
    omega
theorem addV_ok {S : List Int} {x : Int × Tr} (h : ∀ y, y ∈ S → okI y) (hx : okI x.2.num) : ∀ y, y ∈ addV S x → okI y := by
  unfold addV
  split
  · intro y hy
    rcases List.mem_append.1 hy with hy | hy
    · exact h y hy
    · simp at hy; rw [hy]; exact hx
  · exact h
mutual
/-- All numbers of the tree are integers. -/
def Tr.ok : Tr → Prop
  | .node _ n _ l => okI n ∧ okL l
def okL : List Tr → Prop
  | [] => True
  | t :: ts => t.ok ∧ okL ts
end
mutual
theorem IsT.ok {n₀ : Nat} {W : World} : ∀ (T : Tr) (v : Value), IsT n₀ W T v → T.ok
  | .node _ _ _ l, v, h => by
    obtain ⟨a, c, _, _, h2, _, _, _, hl⟩ := h.open
    exact ⟨h2, IsL.ok l a hl⟩
theorem IsL.ok {n₀ : Nat} {W : World} : ∀ (l : List Tr) (a : Option Addr), IsL n₀ W l a → okL l
  | [], _, _ => trivial
  | t :: ts, a, h => by
    unfold IsL at h
    obtain ⟨b, off, v0, v1, v2, v3, _, _, _, _, _, _, ht, hl⟩ := h
    exact ⟨IsT.ok t _ ht, IsL.ok ts _ hl⟩
end
mutual
theorem varsP_ok (d : Int) : ∀ (T : Tr) (S : List Int), T.ok → (∀ y, y ∈ S → okI y) → ∀ y, y ∈ varsP S (preT d T) → okI y
  | .node k n s l, S, h, hS => by
    simp only [preT, varsP, List.foldl_cons]
    exact varsPL_ok (d + 1) l _ h.2 (addV_ok hS h.1)
theorem varsPL_ok (d : Int) : ∀ (l : List Tr) (S : List Int), okL l → (∀ y, y ∈ S → okI y) → ∀ y, y ∈ varsP S (preL d l) → okI y
  | [], S, _, hS => hS
  | t :: ts, S, h, hS => by
    simp only [preL, varsP, List.foldl_append]
    exact varsPL_ok d ts _ h.2 (varsP_ok d t S h.1 hS)
end
theorem varsL_ok : ∀ (l : List Tr) (S : List Int), okL l → (∀ y, y ∈ S → okI y) → ∀ y, y ∈ varsL S l → okI y
  | [], S, _, hS => hS
  | t :: ts, S, h, hS => by
    simp only [varsL, List.foldl_cons]
    exact varsL_ok ts _ h.2 (varsP_ok 1 t S h.1 hS)

set_option maxRecDepth 100000 in
set_option maxHeartbeats 1000000 in
theorem normal1_any (Bs Bm n : Nat) (f : Int → Int) (W : World) (x : Int) (hx : okI x) (hs : Box W Bs #[.map (some Bm)] 123) (hm : NumM W Bm n f) :
    Calls Tryd.prog 102 #[.int .i64 x, .pointer (some ⟨Bs, 0, none⟩)] W fun e W' => e = .returned (.int .i64 (f x)) ∧ Below W.heap.size W W' := by
  have c := hs.cell 0
  simp only [List.getElem?_toArray, List.getElem?_cons_zero] at c
  have hl := hs.lt
  have hr := hm.look hx
  go_enter Tryd.func102, Tryd.ntmps102
  go_wp2_with fail
  go_ret
  exact ⟨rfl, Below.refl _ _⟩
theorem enters_normal1 : ∀ args w, (callFunc 102 args).run Tryd.prog w = .ok (.enter 102 args) w := enters_of Tryd.func102 (by kernel_rfl) rfl
theorem enters_normal2 : ∀ args w, (callFunc 104 args).run Tryd.prog w = .ok (.enter 104 args) w := enters_of Tryd.func104 (by kernel_rfl) rfl

/-- What Normal makes. -/
def normT (l : List Tr) : List Tr := l.map (renT (numV (varsL [] l)))
def NormalPost (l : List Tr) (w : World) (e : Ending) (w' : World) : Prop := Below w.heap.size w w' ∧ match togB l with
  | true => ∃ v u, e = .returned (.tuple #[v, u, .int .i64 0]) ∧ IsPS (New w.heap.size w') w' (normT l) v ∧ Nums w.heap.size w' u (varsL [] l)
  | false => e = .returned (.tuple #[.slice none 0 0, .slice none 0 0, .int .i64 3])

set_option maxRecDepth 100000 in
set_option maxHeartbeats 2000000 in
theorem Normal_any (l : List Tr) (a : Option Addr) (c : Nat) (w : World) (hm : l.length ≤ maxLen) (hl : IsL w.heap.size w l a) (hdp : ∀ t, t ∈ l → t.deep ≤ 999999999) :
    Calls Tryd.prog 45 #[.slice a l.length c] w (NormalPost l w) := by
  have HL := Lib.hid hl
  go_enter Tryd.func45, Tryd.ntmps45
  go_wp2_with fail
  refine (Vars_any l a c w hm hl hdp).mono ?_
  rintro e w1 ⟨hB1, hpost⟩
  have hok := varsL_ok l [] (IsL.ok l a hl) (fun y hy => by simp at hy)
  clear hl hdp
  cases hbT' : togB l with
  | false =>
    rw [hbT'] at hpost
    obtain rfl := hpost
    have hbT := Lib.hid hbT'
    clear hbT'
    go_wp2_with fail
    go_ret3
    refine ⟨hB1, ?_⟩
    rw [hbT.out]
    rfl
  | true =>
    rw [hbT'] at hpost
    obtain ⟨u, rfl, hN⟩ := hpost
    have hszs : sizeL l ≤ 4000 ∧ ∀ t, t ∈ l → t.size ≤ 4000 := by
      simp [togB] at hbT'
      exact ⟨hbT'.2, fun t ht => (isB_size (hbT'.1 t ht)).1⟩
    have hvl := varsL_length l
    have hbT := Lib.hid hbT'
    clear hbT'
    generalize hvs' : varsL [] l = vs at *
    have Hvs := Lib.hid hvs'
    clear hvs'
    have hmm := @run_makeMap Tryd.prog
    obtain ⟨ua, un, uc, hu, hun⟩ : ∃ (ua : Option Addr) (un uc : Nat), u = .slice ua un uc ∧ un = vs.length := by
      rcases hN.open with ⟨rfl, rfl⟩ | ⟨g, cap, cur, rfl, _⟩
      · exact ⟨none, 0, 0, rfl, rfl⟩
      · exact ⟨_, _, cap, rfl, rfl⟩
    subst hu hun
    have HN := Lib.hid hN
    have Hok := Lib.hid hok
    clear hN hok
    go_wp2_with fail
    have hm0 : NumM ((w1.alloc (.map #[] 0)).alloc (.cells #[.map (some w1.heap.size)] 123)) w1.heap.size 0 (numV []) := (NumM.made w1).kept (World.grownBy_alloc _ _ none) (by simp)
    have hs0 : Box ((w1.alloc (.map #[] 0)).alloc (.cells #[.map (some w1.heap.size)] 123)) (w1.heap.size + 1) #[.map (some w1.heap.size)] 123 := Box.at (by simp)
    go_loopw [22] (fun i wr => ∃ (j n : Nat), j ≤ vs.length ∧ i = .int .i64 j ∧ n ≤ j ∧ NumM wr w1.heap.size n (numV (vs.take j)) ∧ Box wr (w1.heap.size + 1) #[.map (some w1.heap.size)] 123 ∧ Below w1.heap.size w1 wr) (fun i _ => vs.length - (intOf i).toNat)
    case atStart => exact ⟨0, 0, Nat.zero_le _, rfl, Nat.le_refl _, by simpa using hm0, hs0, below_a2 (Nat.le_refl _) _ _⟩
    case round =>
      obtain ⟨j, n, hj, rfl, hn, hmj, hsj, hBj⟩ := hrel
      by_cases hlt : j < vs.length
      · rcases HN.out.open with ⟨_, h0⟩ | ⟨g, cap, cur, hue, hg1, hg2, hg3, hg4, hg5, hg6⟩
        · rw [h0] at hlt; simp at hlt
        have hx := take_get hg6 hlt
        have hxok : okI (vs.getD j 0) := Hok.out _ (by rw [List.getD, List.getElem?_eq_getElem hlt]; exact List.getElem_mem hlt)
        simp only [Value.slice.injEq, true_and] at hue
        obtain ⟨rfl, rfl⟩ := hue
        have hgl := hg2.lt
        have hcg : wr.cell? ⟨g, j, none⟩ = some (.int .i64 (vs.getD j 0)) := (hBj.cell (p := ⟨g, j, none⟩) hgl).trans ((hg2.cell j).trans hx)
        have hgw : g < wr.heap.size := by have := hBj.size; omega
        have cs := hsj.cell 0
        simp only [List.getElem?_toArray, List.getElem?_cons_zero] at cs
        have hsl := hsj.lt
        obtain ⟨w2, hrun, hm2, hg⟩ := hmj.put (i := j) (by unfold maxLen; omega) hxok (by unfold okI; omega)
        have hs2 : Box w2 (w1.heap.size + 1) #[.map (some w1.heap.size)] 123 := (hg.block _ hsj.lt (by simp)).trans hsj
        have hB2 : Below w1.heap.size w1 w2 := hBj.trans (grown_below' hg hBj.size (fun g e => by cases e; exact Nat.le_refl _))
        rw [← numV_take hlt] at hm2
        have HF := Lib.hid (And.intro hm2 (And.intro hs2 hB2))
        clear hm2 hs2 hB2 hg hmj hsj hBj hg1 hg2 hg3 hg4 hg5 hg6 hx
        generalize vs.getD j 0 = x at *
        go_wp2_with fail
        go_roundw
        case rel => exact ⟨j + 1, n + 1, hlt, by go_num, by omega, HF.out.1, HF.out.2.1, HF.out.2.2⟩
        case measure => simp [intOf]; omega
      · rw [List.take_of_length_le (by omega)] at hmj
        have hsl := hsj.lt
        have HF := Lib.hid (And.intro hmj (And.intro hsj hBj))
        clear hmj hsj hBj
        go_wp2_with fail
        have hB4 : Below w.heap.size w wr := hB1.trans (HF.out.2.2.mono hB1.size)
        have hB5 := hB4.trans (below_a1 hB4.size (.cells #[.func (.func 102) #[] #[.pointer (some ⟨w1.heap.size + 1, 0, none⟩)]] 120))
        have hm5 : NumM (wr.alloc (.cells #[.func (.func 102) #[] #[.pointer (some ⟨w1.heap.size + 1, 0, none⟩)]] 120)) w1.heap.size n (numV vs) := HF.out.1.kept (World.grownBy_alloc _ _ none) (by simp)
        have hs5 := HF.out.2.1.alloc (.cells #[.func (.func 102) #[] #[.pointer (some ⟨w1.heap.size + 1, 0, none⟩)]] 120)
        have hll := length_le_sizeL l
        have hfok : ∀ x, okI (numV vs x) := fun x => by
          have := numAt_le 4000 vs (fun _ => 0) 0 (Int.le_refl _) (by omega) (fun _ => by omega) x
          unfold okI numV
          omega
        refine (copyEach_any 104 #[] #[.pointer (some ⟨wr.heap.size, 0, none⟩)] enters_normal2 l a c _ (by omega) (HL.out.up hB5 hB5.size) (renT (numV vs)) (fun t ht v W' hW hv => by
          have h := normal2_any 102 #[] #[.pointer (some ⟨w1.heap.size + 1, 0, none⟩)] wr.heap.size t (renT (numV vs) t) v W' hv (Box.keep hW (Box.at rfl)) (fun v' W2 hW2 hv' =>
            rename_any 102 #[] #[.pointer (some ⟨w1.heap.size + 1, 0, none⟩)] enters_normal1 (numV vs) hfok _ (fun x W3 hx hW3 => by
              have h1 := normal1_any (w1.heap.size + 1) w1.heap.size n (numV vs) W3 x hx (Box.keep hW3 hs5) (hm5.kept (grown_b none hW3) (by simp))
              simpa using h1) t v' W2 (hW.trans (hW2.mono hW.size)) hv' (by have := hszs.2 t ht; omega))
          simpa using h)).mono ?_
        rintro e w2 ⟨a', c', rfl, h6, h7, hP, hB⟩
        have hBf := hB5.trans (hB.mono hB5.size)
        have hNf : Nums w.heap.size w2 (.slice ua vs.length uc) vs := HN.out.at fun g hg => by
          obtain ⟨_, cur, hc⟩ := HN.out.cells g hg
          have h1 := HF.out.2.2.block g hc.lt
          have hl1 := hc.lt
          have hl2 := HF.out.2.2.size
          exact (hB.block g (by simp; omega)).trans ((Below.heap_alloc wr _ g (by omega)).trans h1)
        have HZ := Lib.hid (And.intro hP (And.intro hBf (And.intro hNf (And.intro h6 h7))))
        have hs2 := hB5.size
        clear hP hBf hNf hm5 hs5 hB5 hB4
        go_wp2_with fail
        go_ret3
        obtain ⟨hP, hBf, hNf, h6, h7⟩ := HZ.out
        refine ⟨hBf, ?_⟩
        rw [hbT.out, Hvs.out]
        refine ⟨_, _, rfl, ⟨a', c', by rw [normT, List.length_map]; rfl, by rw [normT, List.length_map]; exact h6, h7, ?_⟩, hNf⟩
        rw [normT, Hvs.out]
        exact IsPL.map (fun b hb => ⟨⟨Nat.le_trans hs2 hb.1, hb.2⟩, rfl⟩) _ _ hP
end Go.Proofs.YtckoecmdaefoiaaDoor
