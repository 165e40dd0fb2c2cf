import Derived.Test.YtdigiaigbcfccaaGreatDoorPlace
import Derived.Test.YtdigiaigbcfccaaGreatDoorMono
namespace Go.Proofs.YtdigiaigbcfccaaGreatDoor
open Go.RowKit Go Go.Shelf

attribute [local go_sem] Oper.semAt_some monoUpon Yld.says

theorem infoInts : (Tryz.prog.info? 30).map (fun i => (i.zero, i.size, i.bytes)) = some (some (.slice none 0 0), 1, 24) := by kernel_rfl

section
variable {P : Program} {F : Fence} {n : Nat}
theorem wpListIn_append_where (w : World) {ops : Array Oper} {rest : List Oper} {o : Oper} {a : Act} {Q : Exit → Act → World → Prop} (hgd : o.guard = none) (s x : Operand) (t : TypeId)
    (ho : o.op = .call { callee := .builtin .append, args := #[s, x], argTypes := #[t, t] })
    (base : Nat) (e : TypeId) (i : TypeInfo) (z : Value) (size bytes : Nat) (ht : P.underlying t = some (.slice e)) (hi : P.info? e = some i) (hz : i.zero = some z)
    (hsize : i.size = size) (hby : i.bytes = bytes) (hzs : z.cells.size = size) (hsz : 0 < size)
    (v : Value) (k : Nat) (xs : List Value) (hs : a.eval s = v) (hown : w.ownsRow base e size v k xs)
    (ad : Addr) (m c : Nat) (news : List Value) (hx : a.eval x = .slice (some ad) m c) (hl : news.length = m * size) (hnews : ∀ j u, news[j]? = some u → w.cell? (ad.add j) = some u) (h1 : ∀ u ∈ news, u.oneCell' = true)
    (h63 : k + m ≤ maxLen) (hbytes : (k + m) * bytes ≤ 140737488355328) (hbase : base ≤ w.heap.size)
    (h : ∀ v' w', w'.ownsRow base e size v' (k + m) (xs ++ news) → w.grownBy w' v.ownBlock → (∀ b, v'.ownBlock = some b → v.ownBlock = some b ∨ w.heap.size ≤ b) → wpListIn F n P ops Q rest (a.put o.dst v') w') : wpListIn F n P ops Q (o :: rest) a w := by
  refine wpListIn_plain hgd fun K hK => ?_
  obtain ⟨v', w', hr, h2, h3, _⟩ := run_append_own (P := P) w base t o.type e i z size bytes ht hi hz hsize hby hzs hsz v k xs hown ad m c news hl hnews h1 h63 hbytes hbase
  have h4 := append_where t o.type e i z size bytes ht hi hz hsize hby hzs hsz base v k xs hown ad m c news hl hnews h1 h63 hbytes v' w' hr
  unfold Oper.wpIn
  refine ⟨by simp [Oper.about, ho, resolve, Target.leads, Sem.run_pure], ?_⟩
  rw [Oper.semAt_plain F _ _ (by rw [ho]; intro c hc'; cases hc')]
  simp [execOp, ho, resolve, invoke, builtin, hs, hx, hr, Result.andThen]
  exact hK _ _ (h v' w' h2 h3 h4)
end

theorem ints_one (ns : List Int) : ∀ x, x ∈ ints ns → x.oneCell' = true := fun x hx => by
  obtain ⟨y, _, rfl⟩ := List.mem_map.1 hx
  rfl

set_option maxRecDepth 100000 in
set_option maxHeartbeats 1000000 in
theorem copyList_any (b : Nat) (ns : List Int) (v : Value) (w : World) (h : Nums b w v ns) (hl : ns.length ≤ 1000000000) :
    Calls Tryz.prog 47 #[v] w fun e w' => ∃ v', e = .returned v' ∧ Nums w.heap.size w' v' ns ∧ Below w.heap.size w w' := by
  obtain ⟨i0, hi, hz0, hz1, hz2⟩ := info_parts infoInt
  have H := Lib.hid h
  rcases h.open with ⟨rfl, rfl⟩ | ⟨g, cap, cur, rfl, h1, h2, h3, h4, h5, h6⟩
  · clear h
    go_enter Tryz.func47, Tryz.ntmps47
    go_wp2_with fail
    go_ret
    exact ⟨_, rfl, World.ownsRow_nil _ _ _ _, Below.refl _ _⟩
  · clear h
    go_enter Tryz.func47, Tryz.ntmps47
    go_wp2_with (at_builtin; refine wpList_append_where rfl _ _ 30 rfl w.heap.size 3 i0 (.int .i64 0) 1 8 Tryz.underlying30 hi hz0 hz1 hz2 rfl (by decide) _ _ _ rfl (World.ownsRow_nil _ _ _ _) ⟨g, 0, none⟩ ns.length cap (ints ns) rfl (by simp [ints]) (World.ownsRow.cells H.out rfl) (ints_one ns) (by unfold maxLen; omega) (by omega) (Nat.le_refl _) ?_)
    intro v' w1 hown hgrow _
    go_wp2_with fail
    go_ret
    refine ⟨_, rfl, ?_, hgrow.os, hgrow.tape, hgrow.output, hgrow.size, fun k hk => hgrow.block k hk (by simp [Value.ownBlock])⟩
    simpa [Nums] using hown

/-- What a row of its own that is not the iterator's bears. -/
theorem row_shut {W W' : World} {row : Option Nat} {p p' : Nat → Prop} {base : Nat} {e : TypeId} {size k : Nat} {v : Value} {xs : List Value} (h : W.ownsRow base e size v k xs) (ha : ∀ b, v.ownBlock = some b → ¬ p b)
    (hg : W.grownBy W' row) (hr : ∀ r, row = some r → p r ∨ ∃ o : Obj, W.heap[r]? = some o ∧ o.isCells = false) (hp : ∀ b, p' b → p b ∨ (W.heap.size ≤ b ∧ b < W'.heap.size)) :
    W'.ownsRow base e size v k xs ∧ ∀ b, v.ownBlock = some b → ¬ p' b := by
  refine ⟨h.kept hg ?_, fun b hb hpb => ?_⟩
  · rcases hv : v.ownBlock with _ | b
    · exact .inl rfl
    · refine .inr fun e => ?_
      rcases hr b e.symm with h' | ⟨o, ho, hc⟩
      · exact ha b hv h'
      · rcases h.2 with ⟨rfl, _⟩ | ⟨g, cap, cur, rfl, _, hgb, _⟩
        · cases hv
        · cases hv
          rw [hgb] at ho
          cases ho
          cases hc
  · rcases hp b hpb with h' | h'
    · exact ha b hb h'
    · have := (h.lt b hb).2; omega

/-- Slices of their own, none of them the iterator's. -/
def NumsL (p : Nat → Prop) (lo : Nat) (W : World) : List Value → List (List Int) → Prop
  | [], [] => True
  | u :: us, x :: xs => (Nums lo W u x ∧ ∀ b, u.ownBlock = some b → ¬ p b) ∧ NumsL p lo W us xs
  | _, _ => False
theorem NumsL.length {p : Nat → Prop} {lo : Nat} {W : World} : ∀ {us : List Value} {xs : List (List Int)}, NumsL p lo W us xs → us.length = xs.length
  | [], [], _ => rfl
  | _ :: _, _ :: _, h => by simp [NumsL.length h.2]
theorem NumsL.shut {W W' : World} {row : Option Nat} {p p' : Nat → Prop} {lo : Nat} (hg : W.grownBy W' row) (hr : ∀ r, row = some r → p r ∨ ∃ o : Obj, W.heap[r]? = some o ∧ o.isCells = false) (hp : ∀ b, p' b → p b ∨ (W.heap.size ≤ b ∧ b < W'.heap.size)) :
    ∀ {us : List Value} {xs : List (List Int)}, NumsL p lo W us xs → NumsL p' lo W' us xs
  | [], [], _ => trivial
  | _ :: _, _ :: _, h => ⟨row_shut h.1.1 h.1.2 hg hr hp, NumsL.shut hg hr hp h.2⟩
theorem NumsL.at {p : Nat → Prop} {lo : Nat} {W W' : World} (hk : ∀ b, b < W.heap.size → ∀ cur : Array Value, Box W b cur 3 → W'.heap[b]? = W.heap[b]?) : ∀ {us : List Value} {xs : List (List Int)}, NumsL p lo W us xs → NumsL p lo W' us xs
  | [], [], _ => trivial
  | _ :: _, _ :: _, h => ⟨⟨h.1.1.at fun g hg => by obtain ⟨_, cur, hc⟩ := h.1.1.cells g hg; exact hk g hc.lt cur hc, h.1.2⟩, NumsL.at hk h.2⟩
theorem NumsL.snoc {p : Nat → Prop} {lo : Nat} {W : World} {u : Value} {x : List Int} (hu : Nums lo W u x) (ha : ∀ b, u.ownBlock = some b → ¬ p b) : ∀ {us : List Value} {xs : List (List Int)}, NumsL p lo W us xs → NumsL p lo W (us ++ [u]) (xs ++ [x])
  | [], [], _ => ⟨⟨hu, ha⟩, trivial⟩
  | _ :: _, _ :: _, h => ⟨h.1, NumsL.snoc hu ha h.2⟩

theorem row_not_box {W : World} {base : Nat} {e t : TypeId} {size k B : Nat} {v : Value} {xs : List Value} {cs : Array Value} (h : W.ownsRow base e size v k xs) (hB : Box W B cs t) (ht : t ≠ e) : some B ≠ v.ownBlock := fun he => by
  rcases h.2 with ⟨rfl, _⟩ | ⟨g, cap, cur, rfl, _, hgb, _⟩
  · cases he
  · cases he
    rw [show W.heap[_]? = some _ from hB] at hgb
    cases hgb
    exact ht rfl
theorem row_cells {W : World} {base : Nat} {e : TypeId} {size k : Nat} {v : Value} {xs : List Value} (h : W.ownsRow base e size v k xs) (j : Nat) (o : Obj) (hj : v.ownBlock = some j) (ho : W.heap[j]? = some o) : o.isCells = true := by
  rcases h.2 with ⟨rfl, _⟩ | ⟨g, cap, cur, rfl, _, hgb, _⟩
  · cases hj
  · cases hj
    rw [hgb] at ho
    cases ho
    rfl
theorem one_cell {W : World} {b : Nat} {u : Value} {t : TypeId} (hb : Box W b #[u] t) : ∀ j y, [u][j]? = some y → W.cell? ((⟨b, 0, none⟩ : Addr).add j) = some y
  | 0, y, h => by
    have := hb.cell 0
    simp at this h
    rw [← h]; exact this
  | j + 1, y, h => by simp at h

/-- A slice of slices of numbers, all its own. -/
def NumsS (lo : Nat) (W : World) (v : Value) (ls : List (List Int)) : Prop := ∃ us, W.ownsRow lo 30 1 v ls.length us ∧ NumsL (fun _ => False) lo W us ls

set_option maxHeartbeats 1000000 in
/-- places(t): t in a box; the function captures the box. -/
theorem places_any (v : Value) (k nn : Int) (s : ByteArray) (a : Option Addr) (len c : Nat) (hv : v = .agg #[.int .i64 k, .int .i64 nn, .string s, .slice a len c]) (w : World) :
    Calls Tryz.prog 46 #[v] w fun e w' => e = .returned (.func (.func 77) #[] #[.pointer (some ⟨w.heap.size, 0, none⟩)]) ∧ w' = w.alloc (.cells v.cells 24) := by
  subst hv
  go_enter Tryz.func46, Tryz.ntmps46
  go_wp2_with fail
  go_ret
  exact ⟨rfl, rfl⟩

/-- The places of all nodes, in order. -/
def pathsT (T : Tr) : List (List Int) := (scanP [] (preT 1 T)).map Prod.fst
def PathsPost (T : Tr) (w : World) (e : Ending) (w' : World) : Prop := Below w.heap.size w w' ∧ match isB T with
  | true => ∃ v, e = .returned (.tuple #[v, .int .i64 0]) ∧ NumsS w.heap.size w' v (pathsT T)
  | false => e = .returned (.tuple #[.slice none 0 0, .int .i64 3])

/-- What lies in out's box between two rounds. -/
def PO {n₀ : Nat} {W₀ : World} (w : World) (Bo : Nat) (p : Nat → Prop) (xs : List (Pl n₀ W₀)) (W : World) : Prop :=
  ∃ (v : Value) (us : List Value), Box W Bo #[v] 49 ∧ ¬ p Bo ∧ W.ownsRow w.heap.size 30 1 v xs.length us ∧ (∀ b, v.ownBlock = some b → ¬ p b) ∧ NumsL p w.heap.size W us (xs.map fun x => x.1.1.1) ∧ Below w.heap.size w W ∧ ∀ b, p b → w.heap.size ≤ b
theorem PO.shut {n₀ : Nat} {W₀ : World} (w : World) (Bo : Nat) {B : Nat} (hB : w.heap.size ≤ B) : Shut B (PO (n₀ := n₀) (W₀ := W₀) w Bo) := by
  rintro p p' s W W' row ⟨v, us, h1, h2, h3, h4, h5, h6, h7⟩ hg hr hp
  have hr' : ∀ r, row = some r → p r ∨ ∃ o : Obj, W.heap[r]? = some o ∧ o.isCells = false := fun r e => (hr r e).imp id (·.2)
  have hrow := row_shut h3 h4 hg hr' hp
  refine ⟨v, us, (hg.block Bo h1.lt fun e => ?_).trans h1, fun h => ?_, hrow.1, hrow.2, NumsL.shut hg hr' hp h5, h6.trans (grown_below' hg h6.size fun g e => ?_), fun b hb => ?_⟩
  · rcases hr' Bo e.symm with h | ⟨o, ho, hc⟩
    · exact h2 h
    · rw [show W.heap[Bo]? = _ from h1] at ho
      cases ho
      cases hc
  · rcases hp Bo h with h' | h'
    · exact h2 h'
    · have := h1.lt; omega
  · rcases hr g e with h | h
    · exact h7 g h
    · omega
  · rcases hp b hb with h | h
    · exact h7 b h
    · have := h6.size; omega

/-- A range over places(t) whose variables lie in no boxes. -/
theorem range_places {F : Fence} {n : Nat} (hF : Fence.wide = F) (hd : F.depth = none) (hf : ∀ f, F.fn f) (hro : F.round = none) (h1 : 2 ≤ n) {g : Operand} {ps : Array Tmp} {assign body : Code} {Q : Exit → Act → World → Prop} {a : Act} {w : World}
    (Bt n₀ : Nat) (T : Tr) (v : Value) (W₀ : World) (hg : a.eval g = .func (.func 77) #[] #[.pointer (some ⟨Bt, 0, none⟩)]) (hBt : Box w Bt v.cells 24) (hBW : Below n₀ W₀ w) (hn₀ : n₀ ≤ w.heap.size)
    (hT : IsT n₀ W₀ T v) (hdeep : T.deep ≤ 999999999) (hsz : T.size ≤ 1000000000) (hps : ps.size = 2)
    (I : (Nat → Prop) → List (Pl n₀ W₀) → World → Prop) (Ix : Code → (Nat → Prop) → List (Pl n₀ W₀) → World → Prop) (hI : Shut w.heap.size I) (hIx : ∀ c, Shut w.heap.size (Ix c)) (h0 : I (fun _ => False) [] w)
    (h : ∃ a₁ : Value → Value → Act, (∀ (l : Nat) (x : Pl n₀ W₀) (W : World) (K : Act → World → Prop), K (a₁ x.1.1.2 x.1.2.2) W →
        assign.wpIn (F.inRound l) (n - 1 - 1) Tryz.prog (Exit.then K (fun _ _ _ => False)) { tmps := (ps.zip x.encs).foldl (fun t (p, v) => t.setIfInBounds p v) a.tmps, defers := [] } W) ∧
      (∀ (l : Nat) (p : Nat → Prop) (pre : List (Pl n₀ W₀)) (x : Pl n₀ W₀) (W : World), I p pre W → Pl.V p x W → w.heap.size ≤ W.heap.size → (∀ b, p b → w.heap.size ≤ b ∧ b < W.heap.size) → pre.length < T.size →
        body.wpIn (F.inRound l) (n - 1 - 1) Tryz.prog (ownPostG w.heap.size (KP n₀ p) (I p) (fun c => Ix c p) (pre ++ [x]) W) (a₁ x.1.1.2 x.1.2.2) W) ∧
      (∀ (D : Nat) (p : Nat → Prop) (xs : List (Pl n₀ W₀)) (W : World), w.heap.size ≤ D → ¬ p D → xs.map Pl.fg = scanP [] (preT 1 T) → I p xs W → W.heap[D]? = some (.deferred (some [])) → Q .normal { a with defers := { target := .collected D, args := #[] } :: a.defers } W) ∧
      (∀ (D : Nat) (c : Code) (p : Nat → Prop) (pre : List (Pl n₀ W₀)) (W : World), w.heap.size ≤ D → ¬ p D → pre.map Pl.fg <+: scanP [] (preT 1 T) → Ix c p pre W → W.heap[D]? = some (.deferred (some [])) → c.wpIn F n Tryz.prog Q { a with defers := { target := .collected D, args := #[] } :: a.defers } W)) :
    (Code.rangeFunc g ps assign body).wpIn F n Tryz.prog Q a w := by
  obtain ⟨a₁, hA, hB, hD, hS⟩ := h
  exact wpIn_rangeFunc_priv hro (by omega) hg (hf _) (enters_of Tryz.func77 (by kernel_rfl) rfl) (places_priv hF hd hf hro (n - 1) (by omega) Bt n₀ T v W₀ w hBt hBW hn₀ hT hdeep hsz) (Below.refl _ _) hn₀ (fun x => by rw [hps]; rfl) Pl.V_put
    I Ix hI hIx h0 (fun x a' _ => a' = a₁ x.1.1.2 x.1.2.2) (fun _ _ _ _ _ _ h _ _ => h)
    (fun l p pre x W K hi hv _ _ hK => hA l x W K (hK _ _ (KeepsFrom.refl _ _) ⟨KT.refl _ _, fun _ _ _ => rfl⟩ hi hv rfl))
    (fun l p pre x a' W hi hv ha hs hb hl => by subst ha; exact hB l p pre x W hi hv hs hb hl) hD hS

/-- What the copy of a place is. -/
def IsNums (lo : Nat) (ns : List Int) (u : Value) (W : World) : Prop := Nums lo W u ns
theorem IsNums.stable (lo : Nat) (ns : List Int) : (Yld.any (IsNums lo ns)).stable := fun u w w' he h => Nums.at h fun g hg => by
  obtain ⟨_, cur, hc⟩ := Nums.cells h g hg
  exact Below.block he g hc.lt
/-- A slice of one such copy. -/
def IsNums1 (lo : Nat) (ns : List Int) (x : Value) (W : World) : Prop := ∃ b u, x = .slice (some ⟨b, 0, none⟩) 1 1 ∧ Box W b #[u] 30 ∧ Nums lo W u ns
theorem IsNums1.stable (lo : Nat) (ns : List Int) : (Yld.any (IsNums1 lo ns)).stable := fun _ w w' he ⟨b, x, h1, h2, h3⟩ => ⟨b, x, h1, Box.keep he h2, IsNums.stable lo ns x w w' he h3⟩

set_option maxRecDepth 100000 in
set_option maxHeartbeats 2000000 in
theorem Paths_any (T : Tr) (v : Value) (w : World) (hT : IsT w.heap.size w T v) (hdeep : T.deep ≤ 999999999) :
    Calls Tryz.prog 22 #[v] w (PathsPost T w) := by
  refine (callsIn_wide (n := 9)).1 ?_
  generalize hF : Fence.wide = F
  have hd : F.depth = none := by subst hF; rfl
  have hf : ∀ f, F.fn f := fun f => by subst hF; trivial
  have hro : F.round = none := by subst hF; rfl
  cases hTc : T with
  | node k nn s ts =>
  subst hTc
  have hT' := hT
  obtain ⟨a, c, rfl, _⟩ := hT'.open
  clear hT'
  have H := Lib.hid hT
  clear hT
  have b0 : Box ((w.alloc (.cells #[.int .i64 k, .int .i64 nn, .string s, .slice a ts.length c] 24)).alloc (.cells #[.int .i64 k, .int .i64 nn, .string s, .slice a ts.length c] 24)) w.heap.size #[.int .i64 k, .int .i64 nn, .string s, .slice a ts.length c] 24 := (Box.at rfl).alloc _
  have b1 : Box ((w.alloc (.cells #[.int .i64 k, .int .i64 nn, .string s, .slice a ts.length c] 24)).alloc (.cells #[.int .i64 k, .int .i64 nn, .string s, .slice a ts.length c] 24)) (w.heap.size + 1) #[.int .i64 k, .int .i64 nn, .string s, .slice a ts.length c] 24 := Box.at (by simp)
  have hB0 := below_a2 (Nat.le_refl w.heap.size) (.cells #[.int .i64 k, .int .i64 nn, .string s, .slice a ts.length c] 24) (.cells #[.int .i64 k, .int .i64 nn, .string s, .slice a ts.length c] 24)
  refine callsIn_of_wp_marks Tryz.func22 rfl (hf _) ?_ hro
  simp only [Tryz.ntmps22, List.size_toArray, List.length_cons, List.length_nil, Nat.reduceAdd, Nat.reduceSub, Array.replicate_succ, Array.replicate_zero, List.push_toArray, List.append_toArray, List.nil_append, List.cons_append]
  gi_wp2_with fail
  refine CallsIn.mono (callsIn_of_calls hF (checkEach_any [.node k nn s ts] (some ⟨w.heap.size + 1, 0, none⟩) 1 _ (by unfold maxLen; simp) ?_ (by intro t ht; simp at ht; rcases ht with rfl; assumption))) ?_
  · exact IsL.cons (by simp) (b1.cell 0) (b1.cell 1) (b1.cell 2) (b1.cell 3) (H.out.up hB0 (by simp; omega)) IsL.nil
  rintro e w1 ⟨rfl, hB1⟩
  have p0 := Box.keep hB1 b0
  have hB2 := hB0.trans (hB1.mono hB0.size)
  have l0 := p0.lt
  have q0 := p0.cell 0
  have q1 := p0.cell 1
  have q2 := p0.cell 2
  have q3 := p0.cell 3
  simp only [List.getElem?_toArray, List.getElem?_cons_succ, List.getElem?_cons_zero] at q0 q1 q2 q3
  generalize hEQ : [Tr.node k nn s ts].all isB = bT
  have hbT : Hid (isB (.node k nn s ts) = bT) := by rw [Hid, ← hEQ]; simp
  clear hB1 b0 b1 hB0 hEQ
  cases bT with
  | false =>
    gi_wp2_with fail
    refine ⟨.tuple #[.slice none 0 0, .int .i64 3], by simp [results, Tryz.results22, go_sem]; rfl, hB2, ?_⟩
    rw [hbT.out]
  | true =>
    have hz := isB_size hbT.out
    gi_wp2_with fail
    refine CallsIn.mono (callsIn_of_calls hF (places_any _ k nn s a ts.length c rfl _)) ?_
    rintro e w' ⟨rfl, rfl⟩
    gi_wp2_with fail
    have hB3 := hB2.trans (below_a2 hB2.size (.cells #[.slice none 0 0] 49) (.cells #[.int .i64 k, .int .i64 nn, .string s, .slice a ts.length c] 24))
    have hs5 : ((w1.alloc (.cells #[.slice none 0 0] 49)).alloc (.cells #[.int .i64 k, .int .i64 nn, .string s, .slice a ts.length c] 24)).heap.size = w1.heap.size + 2 := by simp
    refine range_places hF hd hf hro (by omega) (w1.heap.size + 1) w.heap.size (.node k nn s ts) (.agg #[.int .i64 k, .int .i64 nn, .string s, .slice a ts.length c]) w rfl (Box.at (by simp)) hB3 hB3.size H.out hdeep (by omega) rfl
      (PO w w1.heap.size) (fun _ _ _ _ => False) (PO.shut w w1.heap.size hB3.size) (fun _ _ _ _ _ _ _ h _ _ _ => h)
      ⟨_, [], (Box.at rfl).alloc _, fun h => h, World.ownsRow_nil _ _ _ _, fun _ _ h => h, trivial, hB3, fun _ h => h.elim⟩ ?_
    apply Exists.intro
    apply And.intro
    · rintro l ⟨⟨⟨ns, pv⟩, T', v'⟩, hT'⟩ W K hK
      simp only [Pl.encs]
      gi_wp2_with fail
      exact hK
    refine ⟨?_, ?_, fun D c p pre W _ _ _ h _ => h.elim⟩
    · rintro l p pre ⟨⟨⟨ns, pv⟩, T', v'⟩, hT'⟩ W ⟨v, us, h1, h2, h3, h4, h5, h6, h7⟩ ⟨hV1, hV2, hV3⟩ hsW hpb hlen
      dsimp only at hV1 hV2 hV3
      have c0 := h1.cell 0
      simp only [List.getElem?_toArray, List.getElem?_cons_zero] at c0
      have hlo := h1.lt
      have hh := Lib.hid (And.intro h1 (And.intro h2 (And.intro h3 (And.intro h4 (And.intro h5 (And.intro h6 h7))))))
      have hVV := Lib.hid (And.intro hV1 hV2)
      clear h1 h2 h3 h4 h5 h6 h7 hV1 hV2
      gi_wp2_with fail
      refine wpIn_region_mono_tail 4 [.det v, .det pv, .any (IsNums W.heap.size ns), .any (IsNums1 W.heap.size ns)] hf hd (fun k f args w R h => CallsIn.inRound l (callsIn_of_calls hF h)) (by kernel_rfl) (by kernel_rfl) ?_ ?_
      · intro y hy
        simp only [List.mem_cons, List.not_mem_nil, or_false] at hy
        rcases hy with rfl | rfl | rfl | rfl <;> first | trivial | exact IsNums.stable _ _ | exact IsNums1.stable _ _
      simp only [List.take_succ_cons, List.take_zero, List.drop_succ_cons, List.drop_zero]
      refine wpM_step (fun K hK => ?_)
      go_simp
      apply And.intro
      · intro w' hC _
        have q1 := hC.old.1
        have hbs := hC.old.2.2
        clear hC
        go_simp
        exact Ext.refl _
      refine nextM_det (hK _ _ ?_)
      clear hK K
      refine wpM_step (fun K hK => ?_)
      go_simp
      apply And.intro
      · intro w' hC _
        have q1 := hC.old.1
        have hbs := hC.old.2.2
        clear hC
        go_simp
        exact Ext.refl _
      refine nextM_det (hK _ _ ?_)
      clear hK K
      refine wpM_step (fun K hK => ?_)
      go_simp
      apply And.intro
      · intro w' hC _
        go_simp
        refine ⟨Ext.refl _, (copyList_any w.heap.size ns pv w' (IsNums.stable _ _ _ _ _ hC hVV.out.1) hV3).mono ?_⟩
        rintro e w2 ⟨u, rfl, hu, hb⟩
        exact ⟨u, rfl, hb, Nums.base hu (Below.size hC)⟩
      refine nextM_any (fun u => hK _ _ ?_)
      clear hK K
      refine wpM_step (fun K hK => ?_)
      go_simp
      apply And.intro
      · intro w' hC hd'
        have hu : IsNums W.heap.size ns u w' := hd' ⟨2, .data⟩ (by simp) rfl u rfl
        have hu' := hu
        obtain ⟨a1, m1, c1, rfl⟩ : ∃ a1 m1 c1, u = .slice a1 m1 c1 := by
          rcases Nums.open hu' with ⟨rfl, _⟩ | ⟨g, cap, cur, rfl, _⟩ <;> exact ⟨_, _, _, rfl⟩
        go_simp
        exact ⟨below_a1 (Nat.le_refl _) _, _, _, rfl, Box.at rfl, IsNums.stable _ _ _ _ _ (below_a1 (Nat.le_refl _) _) hu⟩
      refine nextM_any (fun x => hK _ _ ?_)
      clear hK K
      refine wpM_nil ?_
      intro w3 hC hE
      obtain ⟨b, u', rfl, hb, hu⟩ : IsNums1 W.heap.size ns x w3 := hE 3 x rfl
      clear hE
      obtain ⟨i0, hi, hz0, hz1, hz2⟩ := info_parts infoInts
      obtain ⟨h1, h2, h3, h4, h5, h6, h7⟩ := hh.out
      have g3 := h3.kept (grown_b none hC) (by rcases v.ownBlock with _ | _ <;> simp)
      have hneB := row_not_box h3 h1 (by decide)
      have q1 := Box.keep hC h1
      have hone : u'.oneCell' = true := by rcases hu.open with ⟨rfl, _⟩ | ⟨g, cap, cur, rfl, _⟩ <;> rfl
      have hsC := Below.size hC
      have hszT := hz.1
      refine wpListIn_append_where w3 rfl _ _ 49 rfl w.heap.size 30 i0 (.slice none 0 0) 1 24 Tryz.underlying49 hi hz0 hz1 hz2 rfl (by decide) v pre.length us rfl g3 ⟨b, 0, none⟩ 1 1 [u'] rfl rfl (one_cell hb) (fun y hy => by simp at hy; subst hy; exact hone) (by unfold maxLen; omega) (by omega) (by have := h6.size; omega) ?_
      intro v2 w4 hown hgrow hwh
      obtain ⟨g, cap, hv2⟩ := ownsRow_succ hown
      have q2 : Box w4 w1.heap.size #[v] 49 := (hgrow.block _ q1.lt hneB).trans q1
      have c2 := q2.cell 0
      have f2 := q2.frozen 0
      simp only [List.getElem?_toArray, List.getElem?_cons_zero] at c2
      have hkeep : ∀ k, k < W.heap.size → some k ≠ v.ownBlock → k ≠ w1.heap.size → (w4.setCell ⟨w1.heap.size, 0, none⟩ v2).heap[k]? = W.heap[k]? := fun k hk hn hB => (Below.heap_setCell w4 ⟨w1.heap.size, 0, none⟩ v2 k hB).trans ((hgrow.block k (by omega) hn).trans (Below.block hC k hk))
      have hKO : KeepsOthers W (w4.setCell ⟨w1.heap.size, 0, none⟩ v2) := ((KeepsOthers.of_below hC).trans (KeepsOthers.of_grownBy hgrow fun j o ej hj => row_cells g3 j o ej hj)).trans (KeepsOthers.setCell _ _ _)
      have hbase : ∀ j, v.ownBlock = some j → w.heap.size ≤ j := fun j hj => (h3.lt j hj).1
      have hKB : Below w.heap.size W (w4.setCell ⟨w1.heap.size, 0, none⟩ v2) := ((Below.mono hC h6.size).trans (grown_below' hgrow (by have := h6.size; omega) hbase)).setCell (p := ⟨w1.heap.size, 0, none⟩) hB2.size v2
      have hKP : KP w.heap.size p W (w4.setCell ⟨w1.heap.size, 0, none⟩ v2) := by
        refine ⟨⟨hKB, fun k cs fr hk => (hkeep k (Array.getElem?_eq_some_iff.1 hk).1 ?_ ?_).trans hk⟩, fun k hk hkW => hkeep k hkW (fun e => h4 k e.symm hk) (fun e => h2 (e ▸ hk))⟩
        · intro e
          rcases h3.2 with ⟨rfl, _⟩ | ⟨g', _, _, rfl, _, hgb, _⟩
          · cases e
          · cases e
            rw [hk] at hgb
            cases hgb
        · intro e
          subst e
          rw [show W.heap[_]? = _ from h1] at hk
          cases hk
      have hPO : PO w w1.heap.size p (pre ++ [(⟨((ns, pv), T', v'), hT'⟩ : Pl w.heap.size w)]) (w4.setCell ⟨w1.heap.size, 0, none⟩ v2) := by
        have hnb2 := row_not_box hown q2 (by decide)
        refine ⟨v2, us ++ [u'], by simpa using q2.set 0 v2, h2, ?_, fun k hk hp => ?_, ?_, h6.trans hKB, h7⟩
        · rw [len_snoc]
          exact hown.kept (grown_set w1.heap.size 0 w4 v2) (.inr hnb2.symm)
        · rcases hwh k hk with h | h
          · exact h4 k h hp
          · have := (hpb k hp).2; omega
        · rw [List.map_append]
          refine NumsL.snoc (Nums.base ?_ h6.size) (fun k hk hp => by have := (hu.cells k hk).1; have := (hpb k hp).2; omega) (NumsL.at (fun k hk cur hc => hkeep k hk (row_not_box h3 hc (by decide)) (fun e => ?_)) h5)
          · refine hu.at fun k hk => ?_
            obtain ⟨_, cur, hc⟩ := hu.cells k hk
            exact (Below.heap_setCell w4 ⟨w1.heap.size, 0, none⟩ v2 k (fun e => by subst e; rw [Box, show w3.heap[_]? = _ from q1] at hc; cases hc)).trans (hgrow.block k hc.lt (row_not_box g3 hc (by decide)))
          · subst e
            rw [Box, show W.heap[_]? = _ from h1] at hc
            cases hc
      have HF := Lib.hid (And.intro hKO (And.intro hKP hPO))
      clear hKO hKP hPO hKB hkeep h1 h2 h3 h4 h5 h6 h7 hown hgrow hwh q1 g3 hb hu hC hbase
      subst hv2
      gi_wp2_with fail
      exact ⟨HF.out.1.from _, HF.out.2.1, HF.out.2.2⟩
    · rintro D p xs W hDle hpD hxs ⟨v, us, h1, h2, h3, h4, h5, h6, h7⟩ hK
      have c0 := h1.cell 0
      simp only [List.getElem?_toArray, List.getElem?_cons_zero] at c0
      have hlo := h1.lt
      gi_wp2_with fail
      have hlen : xs.length = (pathsT (.node k nn s ts)).length := by
        have := congrArg List.length hxs
        rw [List.length_map] at this
        rw [this, pathsT, List.length_map]
      have hmap : xs.map (fun x => x.1.1.1) = pathsT (.node k nn s ts) := by
        rw [pathsT, ← hxs, List.map_map]
        rfl
      refine ⟨by simp, .inl ⟨_, _, rfl, run_takeDeferred hK, ?_⟩⟩
      refine ⟨.tuple #[v, .int .i64 0], by simp [results, Tryz.results22, go_sem], h6.trans (belowK_b (w := w) (Nat.le_refl _) W D _ (.deferred none) (by rw [hs5] at hDle; have := hB2.size; omega) hK rfl rfl), ?_⟩
      rw [hbT.out]
      rw [hlen] at h3
      rw [hmap] at h5
      exact ⟨_, rfl, us, ownsRow_putObj h3 (.deferred none) hK rfl, NumsL.shut (p := p) (grownBy_putObj' W D (.deferred none)) (fun r e => by cases e; exact .inr ⟨_, hK, rfl⟩) (fun _ h => h.elim) h5⟩
end Go.Proofs.YtdigiaigbcfccaaGreatDoor
