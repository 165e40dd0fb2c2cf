import Derived.Test.YtckoecmdaefoiaaDoorPriv
namespace Go.Proofs.YtckoecmdaefoiaaDoor
open Go.RowKit Go Go.Shelf

attribute [local go_sem] Oper.semAt_some

/-- The places of nodes, out of how deep each lies. -/
def scanP : List Int → List (Int × Tr) → List (List Int × Tr)
  | _, [] => []
  | ns, x :: xs => (nextP ns x.1.toNat, x.2) :: scanP (nextP ns x.1.toNat) xs
def lastP (ns : List Int) (xs : List (Int × Tr)) : List Int := xs.foldl (fun q x => nextP q x.1.toNat) ns
theorem scanP_append : ∀ (ns : List Int) (xs ys : List (Int × Tr)), scanP ns (xs ++ ys) = scanP ns xs ++ scanP (lastP ns xs) ys
  | _, [], _ => rfl
  | ns, x :: xs, ys => by
    simp only [List.cons_append, scanP, lastP, List.foldl_cons, List.cons.injEq, true_and]
    exact scanP_append _ xs ys
theorem scanP_length : ∀ (ns : List Int) (xs : List (Int × Tr)), (scanP ns xs).length = xs.length
  | _, [] => rfl
  | ns, x :: xs => by simp [scanP, scanP_length _ xs]
theorem scanP_prefix {q l : List (Int × Tr)} (h : q <+: l) (ns : List Int) : scanP ns q <+: scanP ns l := by
  obtain ⟨r, rfl⟩ := h
  rw [scanP_append]
  exact List.prefix_append _ _
theorem lastP_snoc (ns : List Int) (xs : List (Int × Tr)) (x : Int × Tr) : lastP ns (xs ++ [x]) = nextP (lastP ns xs) x.1.toNat := by simp [lastP]

def smallP (m : Int) (ns : List Int) : Prop := ns.length ≤ 1000000000 ∧ ∀ x, x ∈ ns → 0 ≤ x ∧ x ≤ m
theorem smallP_next {m : Int} {ns : List Int} {d : Nat} (h : smallP m ns) (hm : 0 ≤ m) (hd : d ≤ 1000000000) : smallP (m + 1) (nextP ns d) := by
  obtain ⟨h1, h2⟩ := h
  unfold nextP
  split
  · refine ⟨by simp; omega, fun x hx => ?_⟩
    rcases List.mem_append.1 hx with hx | hx
    · have := h2 x hx; omega
    · simp at hx; omega
  · split
    · refine ⟨by simp; omega, fun x hx => ?_⟩
      rcases List.mem_append.1 hx with hx | hx
      · have := h2 x (List.mem_of_mem_take hx); omega
      · simp only [List.mem_singleton] at hx
        by_cases hl : d - 2 < ns.length
        · rw [List.getD, List.getElem?_eq_getElem hl] at hx
          have := h2 _ (List.getElem_mem hl)
          simp at hx; omega
        · rw [List.getD, List.getElem?_eq_none (by omega)] at hx
          simp at hx; omega
    · exact ⟨by simp, fun x hx => by simp at hx⟩

theorem Nums.base {b c : Nat} {W : World} {v : Value} {ns : List Int} (h : Nums b W v ns) (hc : c ≤ b) : Nums c W v ns := by
  refine ⟨h.1, h.2.imp id ?_⟩
  rintro ⟨g, cap, cur, e, h1, h2⟩
  exact ⟨g, cap, cur, e, by omega, h2⟩
theorem Nums.at {b : Nat} {W W' : World} {v : Value} {ns : List Int} (h : Nums b W v ns) (hk : ∀ g, v.ownBlock = some g → W'.heap[g]? = W.heap[g]?) : Nums b W' v ns := by
  refine ⟨h.1, h.2.imp id ?_⟩
  rintro ⟨g, cap, cur, e, h1, h2, h3⟩
  subst e
  exact ⟨g, cap, cur, rfl, h1, (hk g rfl).trans h2, h3⟩
theorem Nums.cells {b : Nat} {W : World} {v : Value} {ns : List Int} (h : Nums b W v ns) (g : Nat) (hg : v.ownBlock = some g) : b ≤ g ∧ ∃ cur, Box W g cur 3 := by
  rcases h.open with ⟨rfl, _⟩ | ⟨g', cap, cur, rfl, h1, h2, _⟩
  · cases hg
  · cases hg; exact ⟨h1, cur, h2⟩
theorem Nums.not_box {b B : Nat} {W : World} {v : Value} {ns : List Int} {cs : Array Value} {t : TypeId} (h : Nums b W v ns) (hB : Box W B cs t) (ht : t ≠ 3) : some B ≠ v.ownBlock := fun e => by
  obtain ⟨_, cur, hc⟩ := h.cells B e.symm
  rw [Box, hB] at hc
  cases hc
  exact ht rfl
theorem Nums.put {b l : Nat} {W : World} {v : Value} {ns : List Int} {o : Obj} (h : Nums b W v ns) (hl : W.heap[l]? = some o) (ho : o.isCells = false) (o' : Obj) : Nums b (W.putObj l o') v ns :=
  h.at fun g hg => World.putObj_heap_other fun e => by
    obtain ⟨_, cur, hc⟩ := h.cells g hg
    subst e
    rw [Box, hl] at hc
    cases hc
    cases ho

/-- A place and its node, as they are handed to a round. -/
abbrev Pl (n₀ : Nat) (W₀ : World) : Type := { x : (List Int × Value) × Tr × Value // IsT n₀ W₀ x.2.1 x.2.2 }
def Pl.encs {n₀ : Nat} {W₀ : World} (x : Pl n₀ W₀) : Array Value := #[x.1.1.2, x.1.2.2]
def Pl.fg {n₀ : Nat} {W₀ : World} (x : Pl n₀ W₀) : List Int × Tr := (x.1.1.1, x.1.2.1)
def Pl.V {n₀ : Nat} {W₀ : World} (p : Nat → Prop) (x : Pl n₀ W₀) (W : World) : Prop := Nums n₀ W x.1.1.2 x.1.1.1 ∧ (∀ b, x.1.1.2.ownBlock = some b → p b) ∧ x.1.1.1.length ≤ 1000000000
theorem Pl.V_put {n₀ : Nat} {W₀ : World} : ∀ (p : Nat → Prop) (x : Pl n₀ W₀) (W : World) (l : Nat) (o o' : Obj), Pl.V p x W → ¬ p l → W.heap[l]? = some o → o.isCells = false → Pl.V p x (W.putObj l o') :=
  fun _ _ _ _ _ o' h _ hl ho => ⟨h.1.put hl ho o', h.2⟩

theorem grown_below' {n₀ : Nat} {w w' : World} {row : Option Nat} (h : w.grownBy w' row) (hn : n₀ ≤ w.heap.size) (hr : ∀ g, row = some g → n₀ ≤ g) : Below n₀ w w' :=
  ⟨h.os, h.tape, h.output, h.size, fun k hk => h.block k (by omega) (fun e => by have := hr k e.symm; omega)⟩
theorem grown_b (row : Option Nat) {w w' : World} (h : Below w.heap.size w w') : w.grownBy w' row := ⟨h.os, h.tape, h.output, h.size, fun k hk _ => h.block k hk⟩

/-- The blocks of the iterator itself: yield's box, the place's box, the place. -/
def mine (B : Nat) (v : Value) (b : Nat) : Prop := b = B ∨ b = B + 1 ∨ v.ownBlock = some b

/-- Between two rounds. -/
def PI {n₀ : Nat} {W₀ : World} (l B : Nat) (J : (Nat → Prop) → List (Pl n₀ W₀) → World → Prop) (pre : List (Nd n₀ W₀)) (W : World) : Prop :=
  ∃ (v : Value) (ys : List (Pl n₀ W₀)), J (mine B v) ys W ∧ ys.map Pl.fg = scanP [] (pre.map Nd.fg) ∧ smallP pre.length (lastP [] (pre.map Nd.fg)) ∧ Box W B #[.func (.yield l) #[] #[]] 144 ∧ Box W (B + 1) #[v] 35 ∧
    Nums B W v (lastP [] (pre.map Nd.fg)) ∧ B + 3 ≤ W.heap.size
def PX {n₀ : Nat} {W₀ : World} (B : Nat) (Jx : (Nat → Prop) → List (Pl n₀ W₀) → World → Prop) (c : Code) (pre : List (Nd n₀ W₀)) (W : World) : Prop :=
  c = .ret ∧ ∃ (v : Value) (ys : List (Pl n₀ W₀)), Jx (mine B v) ys W ∧ ys.map Pl.fg = scanP [] (pre.map Nd.fg) ∧ B + 3 ≤ W.heap.size
theorem PI.own {n₀ : Nat} {W₀ : World} (l B : Nat) {J : (Nat → Prop) → List (Pl n₀ W₀) → World → Prop} (hJ : Shut B J) : OwnFrom (B + 3) (PI l B J) := by
  rintro s X Y row ⟨v, ys, h1, h2, h3, h4, h5, h6, h7⟩ hg hr
  have hr2 : ∀ r, row = some r → ∃ o : Obj, X.heap[r]? = some o ∧ o.isCells = false := fun r e => (hr r e).2
  refine ⟨v, ys, hJ _ _ ys X Y row h1 hg (fun r e => .inr ⟨by have := (hr r e).1; omega, (hr r e).2⟩) (fun _ h => .inl h), h2, h3, Box.own _ _ (fun _ => _) () X Y row h4 hg hr2, Box.own _ _ (fun _ => _) () X Y row h5 hg hr2, ?_, Nat.le_trans h7 hg.size⟩
  refine h6.at fun g hgb => hg.block g ?_ fun e => ?_
  · obtain ⟨_, cur, hc⟩ := h6.cells g hgb
    exact hc.lt
  · obtain ⟨_, cur, hc⟩ := h6.cells g hgb
    obtain ⟨o, ho, hn⟩ := hr2 g e.symm
    rw [Box, ho] at hc
    cases hc
    cases hn
theorem PX.own {n₀ : Nat} {W₀ : World} (B : Nat) {Jx : (Nat → Prop) → List (Pl n₀ W₀) → World → Prop} (hJ : Shut B Jx) (c : Code) : OwnFrom (B + 3) (PX B Jx c) := by
  rintro s X Y row ⟨hc, v, ys, h1, h2, h3⟩ hg hr
  exact ⟨hc, v, ys, hJ _ _ ys X Y row h1 hg (fun r e => .inr ⟨by have := (hr r e).1; omega, (hr r e).2⟩) (fun _ h => .inl h), h2, Nat.le_trans h3 hg.size⟩

set_option maxRecDepth 100000 in
set_option maxHeartbeats 2000000 in
/-- places(t) hands back a function over which can be ranged. -/
theorem places_priv {F : Fence} (hF : Fence.wide = F) (hd : F.depth = none) (hf : ∀ f, F.fn f) (hro : F.round = none) (n : Nat) (h1 : 1 ≤ n) (Bt n₀ : Nat) (T : Tr) (v : Value) (W₀ w : World) (hBt : Box w Bt v.cells 25) (hBW : Below n₀ W₀ w) (hn₀ : n₀ ≤ w.heap.size)
    (hT : IsT n₀ W₀ T v) (hdeep : T.deep ≤ 999999999) (hsz : T.size ≤ 1000000000) :
    SeqPriv F n Tryd.prog 123 #[.pointer (some ⟨Bt, 0, none⟩)] (Pl.encs (n₀ := n₀) (W₀ := W₀)) Pl.V n₀ (fun ys => ys.map Pl.fg = scanP [] (preT 1 T)) (fun ys => ys.map Pl.fg <+: scanP [] (preT 1 T)) T.size w := by
  intro l J Jx W hW hJ hJx hY hJ0
  cases T with
  | node k nn s ts =>
  have hT' := hT
  obtain ⟨a, c, rfl, _⟩ := hT'.open
  have hBt' : Box W Bt #[.int .i64 k, .int .i64 nn, .string s, .slice a ts.length c] 25 := Box.keep hW hBt
  have hc0 := hBt'.cell 0
  have hc1 := hBt'.cell 1
  have hc2 := hBt'.cell 2
  have hc3 := hBt'.cell 3
  have hBtl := hBt'.lt
  simp only [List.getElem?_toArray, List.getElem?_cons_succ, List.getElem?_cons_zero] at hc0 hc1 hc2 hc3
  have hnW : n₀ ≤ W.heap.size := Nat.le_trans hn₀ hW.size
  have hBW2 := hBW.trans (hW.mono hn₀)
  have HY := Lib.hid hY
  have HJ := Lib.hid (And.intro hJ hJx)
  have HJ0 := Lib.hid hJ0
  clear hBt hBt' hW hBW hY hJ hJx hJ0 hn₀
  refine callsIn_of_wp_marks Tryd.func123 rfl (hf _) ?_ hro
  simp only [Tryd.ntmps123, List.size_toArray, List.length_cons, List.length_nil, Nat.reduceAdd, Nat.reduceSub, Array.replicate_succ, Array.replicate_zero, List.push_toArray, List.append_toArray, List.nil_append, List.cons_append]
  gi_wp2_with fail
  refine (CallsIn.mono (callsIn_of_calls hF (nodes_any _ k nn s a ts.length c rfl _)) ?_)
  rintro e w' ⟨rfl, rfl⟩
  gi_wp2_with fail
  have hin : PI l W.heap.size J ([] : List (Nd n₀ W₀)) (((W.alloc (.cells #[.func (.yield l) #[] #[]] 144)).alloc (.cells #[.slice none 0 0] 35)).alloc (.cells #[.int .i64 k, .int .i64 nn, .string s, .slice a ts.length c] 25)) := by
    refine ⟨.slice none 0 0, [], ?_, rfl, ⟨by simp [lastP], fun x hx => by simp [lastP] at hx⟩, ((Box.at rfl).alloc _).alloc _, (Box.at (by simp)).alloc _, World.ownsRow_nil _ _ _ _, by simp⟩
    exact HJ.out.1 _ _ _ _ _ none HJ0.out (grown_b none (below_a3 (Nat.le_refl _) _ _ _)) (fun r e => by cases e) (fun b hb => .inr (by
      rcases hb with h | h | h
      · simp; omega
      · simp; omega
      · cases h))
  refine range_nodesH hd hf hro h1 (W.heap.size + 1 + 1) n₀ (.node k nn s ts) (.agg #[.int .i64 k, .int .i64 nn, .string s, .slice a ts.length c]) W₀ rfl (block_at (by simp)) (hBW2.trans (below_a3 hnW _ _ _)) (by simp; omega) hT hdeep rfl
    (PI l W.heap.size J) (PX W.heap.size Jx) (by simpa using PI.own l W.heap.size HJ.out.1) (fun c => by simpa using PX.own W.heap.size HJ.out.2 c) hin ?_
  have hs3 : (((W.alloc (.cells #[.func (.yield l) #[] #[]] 144)).alloc (.cells #[.slice none 0 0] 35)).alloc (.cells #[.int .i64 k, .int .i64 nn, .string s, .slice a ts.length c] 25)).heap.size = W.heap.size + 3 := by simp
  rw [hs3]
  have hown := PI.own l W.heap.size HJ.out.1
  apply Exists.intro
  apply And.intro
  · rintro l2 pre ⟨⟨d, T', v'⟩, hT', hd'⟩ Wb K hI hK
    cases T' with
    | node k' n' s' ts' =>
    obtain ⟨a', c', rfl, _⟩ := hT'.open
    simp only [Nd.encs]
    gi_wp2_with fail
    have hblk := World.alloc_heap_new Wb (.cells #[.int .i64 k', .int .i64 n', .string s', .slice a' ts'.length c'] 25)
    have hsW : n₀ ≤ Wb.heap.size := by obtain ⟨_, _, _, _, _, _, _, _, h⟩ := hI; omega
    have hKT := (KT.refl n₀ Wb).alloc hsW (.cells #[.int .i64 k', .int .i64 n', .string s', .slice a' ts'.length c'] 25)
    have hI' := hown.alloc (.cells #[.int .i64 k', .int .i64 n', .string s', .slice a' ts'.length c'] 25) hI
    have hKF := (KeepsOthers.alloc Wb (.cells #[.int .i64 k', .int .i64 n', .string s', .slice a' ts'.length c'] 25)).from
    replace hK := fun Bx W' => hK Bx W'
    dsimp only [Value.cells] at hK
    generalize Wb.alloc (.cells #[.int .i64 k', .int .i64 n', .string s', .slice a' ts'.length c'] 25) = W' at *
    generalize Wb.heap.size = Bx at *
    replace hK := hK Bx W' (hKF _) hKT hI' hblk
    generalize Value.agg #[.int .i64 k', .int .i64 n', .string s', .slice a' ts'.length c'] = v' at *
    exact hK
  refine ⟨?_, ?_, ?_⟩
  · rintro l2 pre ⟨⟨d, T', v'⟩, hT', hd'⟩ Bx Wb hI hx hpre
    cases T' with
    | node k' n' s' ts' =>
    obtain ⟨a', c', rfl, _⟩ := hT'.open
    dsimp only [Value.cells] at hx
    obtain ⟨v, ys, h1, h2, h3, h4, h5, h6, h7⟩ := hI
    obtain ⟨hd1, hd2⟩ := hd'
    obtain ⟨m, rfl⟩ := Int.eq_ofNat_of_zero_le (Int.le_trans (by decide) hd1)
    have hxB : Box Wb Bx #[.int .i64 k', .int .i64 n', .string s', .slice a' ts'.length c'] 25 := hx
    have c5 := h5.cell 0
    simp only [List.getElem?_toArray, List.getElem?_cons_zero] at c5
    have hPrev := Lib.hid (And.intro h1 (And.intro h2 h3))
    have H6 := Lib.hid h6
    have hcall := nextPlace_any W.heap.size (lastP [] (pre.map Nd.fg)) m v Wb h6 (by omega) (by omega) (by omega) h3.1 (fun x hx => by have := h3.2 x hx; omega)
    clear h1 h2 h3 h6 hx
    gi_wp2_with fail
    refine (CallsIn.inRound l2 (callsIn_of_calls hF hcall)).mono ?_
    rintro e w1 ⟨v1, rfl, hN1, hg1, hwh⟩
    have hneB := H6.out.not_box h4 (by decide)
    have hneP := H6.out.not_box h5 (by decide)
    have hneX := H6.out.not_box hxB (by decide)
    have q4 : Box w1 W.heap.size #[.func (.yield l) #[] #[]] 144 := (hg1.block _ h4.lt hneB).trans h4
    have q5 : Box w1 (W.heap.size + 1) #[v] 35 := (hg1.block _ h5.lt hneP).trans h5
    have qx : Box w1 Bx #[.int .i64 k', .int .i64 n', .string s', .slice a' ts'.length c'] 25 := (hg1.block _ hxB.lt hneX).trans hxB
    have hXP : Bx ≠ W.heap.size + 1 := fun e => by
      rw [e, Box, q5] at qx
      simp at qx
    have hkf1 : KeepsFrom (W.heap.size + 3) Wb (w1.setCell ⟨W.heap.size + 1, 0, none⟩ v1) :=
      (KeepsOthers.of_grownBy hg1 fun j o ej hj => by
        obtain ⟨_, cur, hc⟩ := H6.out.cells j ej
        rw [Box, hj] at hc
        cases hc
        rfl).from _ |>.trans ((KeepsOthers.setCell _ _ _).from _)
    have hkt1 : KT n₀ Wb (w1.setCell ⟨W.heap.size + 1, 0, none⟩ v1) := by
      refine KT.setBx (B := W.heap.size + 1) ⟨grown_below' hg1 (by omega) (fun g hg => by have := (H6.out.cells g hg).1; omega), fun b cs fr hb => (hg1.block b (Array.getElem?_eq_some_iff.1 hb).1 ?_).trans hb⟩ q5 (by decide) (by omega) 0 v1
      intro e
      obtain ⟨_, cur, hc⟩ := H6.out.cells b e.symm
      rw [Box, hb] at hc
      simp at hc
    obtain ⟨a1, m1, c1, hv1⟩ : ∃ a1 m1 c1, v1 = .slice a1 m1 c1 := by
      rcases hN1.open with ⟨rfl, _⟩ | ⟨g, cap, cur, rfl, _⟩ <;> exact ⟨_, _, _, rfl⟩
    have hne1 := hN1.not_box q5 (by decide)
    have N2 : Nums W.heap.size (w1.setCell ⟨W.heap.size + 1, 0, none⟩ v1) v1 (nextP (lastP [] (pre.map Nd.fg)) m) := hN1.at fun g hg => Below.heap_setCell w1 ⟨W.heap.size + 1, 0, none⟩ v1 g (fun e => hne1 (by rw [hg]; exact congrArg some e.symm))
    have J2 : J (mine W.heap.size v1) ys (w1.setCell ⟨W.heap.size + 1, 0, none⟩ v1) := by
      refine HJ.out.1 (mine W.heap.size v1) _ ys w1 _ (some (W.heap.size + 1)) ?_ (grown_set (W.heap.size + 1) 0 w1 v1) (fun r e => by cases e; exact .inl (.inr (.inl rfl))) (fun _ h => .inl h)
      refine HJ.out.1 (mine W.heap.size v) _ ys Wb w1 v.ownBlock hPrev.out.1 hg1 (fun r e => .inl (.inr (.inr e))) (fun b hb => ?_)
      rcases hb with h | h | h
      · exact .inl (.inl h)
      · exact .inl (.inr (.inl h))
      · rcases hwh b h with h' | h'
        · exact .inl (.inr (.inr h'))
        · obtain ⟨_, cur, hc⟩ := hN1.cells b h
          exact .inr ⟨h', hc.lt⟩
    have hlen : ys.length < (Tr.node k nn s ts).size := by
      have := congrArg List.length hPrev.out.2.1
      rw [scanP_length, List.length_map, List.length_map] at this
      omega
    have hyield := HY.out (mine W.heap.size v1) ys ⟨((nextP (lastP [] (pre.map Nd.fg)) m, v1), .node k' n' s' ts', _), hT'⟩ _ J2 ⟨N2.base hnW, fun b hb => .inr (.inr hb), (smallP_next (d := m) hPrev.out.2.2 (by omega) (by omega)).1⟩ hlen
    have hyield := yield_any hd (n - 1 - 1 - 1) hyield
    simp only [Pl.encs] at hyield
    have p4 := q4.other (B' := W.heap.size + 1) (by omega) 0 v1
    have p5 := q5.set 0 v1
    have px := qx.other (B' := W.heap.size + 1) hXP 0 v1
    have hN2 := Lib.hid N2
    have hKK := Lib.hid (And.intro hkf1 hkt1)
    have hsw : Wb.heap.size ≤ w1.heap.size := hg1.size
    clear hneB hneP hneX hXP hg1 hwh q4 qx N2 J2 h4 h5 hxB hcall hkf1 hkt1 hN1 hne1 c5 hlen
    have fz := q5.frozen 0
    have cz := q5.cell 0
    simp only [List.getElem?_toArray, List.getElem?_cons_zero] at cz
    subst hv1
    have d4 := p4.cell 0
    have d5 := p5.cell 0
    have x0 := px.cell 0
    have x1 := px.cell 1
    have x2 := px.cell 2
    have x3 := px.cell 3
    simp at d4 d5 x0 x1 x2 x3
    obtain ⟨fn, tmps, assign, body, hy, hR⟩ := hyield
    gi_wp2_with fail
    refine RoundIn.mono hR ?_
    clear hR hy
    have p5' : Box (w1.setCell ⟨W.heap.size + 1, 0, none⟩ (.slice a1 m1 c1)) (W.heap.size + 1) #[.slice a1 m1 c1] 35 := by simpa using p5
    have hscan : (ys ++ [(⟨((nextP (lastP [] (pre.map Nd.fg)) m, .slice a1 m1 c1), .node k' n' s' ts', .agg #[.int .i64 k', .int .i64 n', .string s', .slice a' ts'.length c']), hT'⟩ : Pl n₀ W₀)]).map (Pl.fg (n₀ := n₀) (W₀ := W₀)) =
        scanP [] ((pre ++ [(⟨((m : Int), .node k' n' s' ts', .agg #[.int .i64 k', .int .i64 n', .string s', .slice a' ts'.length c']), hT', hd1, hd2⟩ : Nd n₀ W₀)]).map (Nd.fg (n₀ := n₀) (W₀ := W₀))) := by
      rw [List.map_append, List.map_append, scanP_append, hPrev.out.2.1]
      rfl
    have hsm := smallP_next (d := m) hPrev.out.2.2 (by omega) (by omega)
    rintro e W3 ⟨hkf, (⟨rfl, hJ3, hkt3, hkp3⟩ | ⟨rfl, hX3⟩)⟩
    · have hfin := Lib.hid (And.intro hscan (And.intro hJ3 (And.intro hkt3 (And.intro hkp3 (And.intro hkf (And.intro p4 (And.intro p5' hsm)))))))
      clear hscan hJ3 hkt3 hkp3 hkf p4 p5 p5' hsm px d4 d5 x0 x1 x2 x3 fz cz q5
      gi_wp2_with fail
      obtain ⟨hscan, hJ3, hkt3, hkp3, hkf, p4, p5', hsm⟩ := hfin.out
      have hs1 := hkf.size
      refine ⟨hKK.out.1.trans (kf_up hkf (by omega)), hKK.out.2.trans hkt3, _, _, hJ3, hscan, ?_, (hkp3 _ (.inl rfl) p4.lt).trans p4, (hkp3 _ (.inr (.inl rfl)) p5'.lt).trans p5', ?_, by simp at hs1; omega⟩
      · rw [List.map_append, List.map_cons, List.map_nil, lastP_snoc, len_snoc]
        exact hsm
      · rw [List.map_append, List.map_cons, List.map_nil, lastP_snoc]
        exact hN2.out.at fun g hg => hkp3 g (.inr (.inr hg)) (by obtain ⟨_, cur, hc⟩ := hN2.out.cells g hg; exact hc.lt)
    · have hfin := Lib.hid (And.intro hscan (And.intro hX3 hkf))
      clear hscan hX3 hkf p4 p5 p5' hsm px d4 d5 x0 x1 x2 x3 fz cz q5
      gi_wp2_with fail
      obtain ⟨hscan, hX3, hkf⟩ := hfin.out
      have hs1 := hkf.size
      exact ⟨hKK.out.1.trans (kf_up hkf (by omega)), rfl, _, _, hX3, hscan, by simp at hs1; omega⟩
  · rintro D xs W4 hDle hxs ⟨v, ys, h1, h2, h3, h4, h5, h6, h7⟩ hK
    have hfin := Lib.hid (And.intro h1 h2)
    clear h1 h2 h3 h4 h5 h6
    gi_wp2_with fail
    refine ⟨by simp, .inl ⟨_, _, rfl, run_takeDeferred hK, ?_⟩⟩
    obtain ⟨h1, h2⟩ := hfin.out
    rw [hxs] at h2
    have hz := HJ.out.1.put (.deferred none) h1 (by omega) hK rfl
    refine ⟨.tuple #[], by simp [results, Tryd.results123, go_sem], ⟨_, rfl⟩, .inl ⟨_, _, h2, hz⟩⟩
  · rintro D c pre W4 hDle hpre ⟨rfl, v, ys, h1, h2, h7⟩ hK
    have hfin := Lib.hid (And.intro h1 h2)
    clear h1 h2
    gi_wp2_with fail
    refine ⟨by simp, .inl ⟨_, _, rfl, run_takeDeferred hK, ?_⟩⟩
    obtain ⟨h1, h2⟩ := hfin.out
    have hz := HJ.out.2.put (.deferred none) h1 (by omega) hK rfl
    refine ⟨.tuple #[], by simp [results, Tryd.results123, go_sem], ⟨_, rfl⟩, .inr ⟨_, _, ?_, hz⟩⟩
    rw [h2]
    exact scanP_prefix hpre []
end Go.Proofs.YtckoecmdaefoiaaDoor
