/- Ranges over an iterator that writes memory of its own. No program is named here. -/
import Derived.Test.YtckoecmdaefoiaaDoorPlace
namespace Go.Proofs.YtckoecmdaefoiaaDoor
open Go.RowKit Go

/-- J p speaks of no block of p (these are the iterator's), and of no object at or beyond B but cells. -/
def Shut {β : Type} (B : Nat) (J : (Nat → Prop) → β → World → Prop) : Prop :=
  ∀ (p p' : Nat → Prop) (s : β) (W W' : World) (row : Option Nat), J p s W → W.grownBy W' row → (∀ r, row = some r → p r ∨ (B ≤ r ∧ ∃ o : Obj, W.heap[r]? = some o ∧ o.isCells = false)) →
    (∀ b, p' b → p b ∨ (W.heap.size ≤ b ∧ b < W'.heap.size)) → J p' s W'
theorem Shut.put {β : Type} {B : Nat} {J : (Nat → Prop) → β → World → Prop} (h : Shut B J) {p : Nat → Prop} {s : β} {W : World} {l : Nat} {o : Obj} (o' : Obj) (hs : J p s W) (hB : B ≤ l) (hl : W.heap[l]? = some o) (ho : o.isCells = false) : J p s (W.putObj l o') :=
  h p p s W _ (some l) hs (grownBy_putObj' W l o') (fun r e => by cases e; exact .inr ⟨hB, o, hl, ho⟩) (fun _ hb => .inl hb)
theorem Shut.lay {β : Type} {B : Nat} {J : (Nat → Prop) → β → World → Prop} (h : Shut B J) {p : Nat → Prop} {s : β} {W : World} (o : Obj) (hs : J p s W) : J p s (W.alloc o) :=
  h p p s W _ none hs (World.grownBy_alloc W o none) (fun r e => by cases e) (fun _ hb => .inl hb)

/-- What a round keeps: all below n₀, every block of terms, and the iterator's own blocks. -/
def KP (n₀ : Nat) (p : Nat → Prop) (A B : World) : Prop := KT n₀ A B ∧ ∀ b, p b → b < A.heap.size → B.heap[b]? = A.heap[b]?
theorem KP.trans {n₀ : Nat} {p : Nat → Prop} {A B C : World} (h : KP n₀ p A B) (k : KP n₀ p B C) : KP n₀ p A C :=
  ⟨h.1.trans k.1, fun b hb hA => (k.2 b hb (Nat.lt_of_lt_of_le hA h.1.below.size)).trans (h.2 b hb hA)⟩

theorem kf_up {B C : Nat} {X Y : World} (h : KeepsFrom B X Y) (hc : B ≤ C) : KeepsFrom C X Y := ⟨h.size, fun k o hk => h.same k o (Nat.le_trans hc hk)⟩
theorem kf_put {B l : Nat} {X : World} (o : Obj) (h : l < B) : KeepsFrom B X (X.putObj l o) := KeepsFrom.of_grownBy (grownBy_putObj' X l o) (fun j e => by cases e; exact h)

/-- The contract of an iterator with memory of its own. -/
def SeqPriv {α : Type} (F : Fence) (n : Nat) (P : Program) (g : Nat) (lb : Array Value) (encs : α → Array Value) (V : (Nat → Prop) → α → World → Prop) (n₀ : Nat) (S Sp : List α → Prop) (N : Nat) (w : World) : Prop :=
  ∀ (l : Nat) (J Jx : (Nat → Prop) → List α → World → Prop) (W : World), Below w.heap.size w W → Shut W.heap.size J → Shut W.heap.size Jx →
    (∀ p pre x W1, J p pre W1 → V p x W1 → pre.length < N → YieldAt F (n - 1) P l (encs x) W1 fun e W' => KeepsFrom W.heap.size W1 W' ∧
      ((e = .returned (.bool true) ∧ J p (pre ++ [x]) W' ∧ KP n₀ p W1 W') ∨ (e = .returned (.bool false) ∧ Jx p (pre ++ [x]) W'))) →
    J (fun _ => False) [] W →
    CallsIn F n P g (#[.func (.yield l) #[] #[]] ++ lb) W fun e W' => (∃ v, e = .returned v) ∧ ((∃ p xs, S xs ∧ J p xs W') ∨ (∃ p pre, Sp pre ∧ Jx p pre W'))

set_option maxHeartbeats 1000000 in
theorem wpIn_rangeFunc_priv {F : Fence} {n : Nat} {P : Program} {α : Type} {g : Operand} {ps : Array Tmp} {assign body : Code} {Q : Exit → Act → World → Prop} {a : Act} {w : World}
    (hro : F.round = none) (h1 : 1 ≤ n) {gf : Nat} {lb : Array Value} (hg : a.eval g = .func (.func gf) #[] lb) (hFg : F.fn gf) (eg : ∀ args w, (callFunc gf args).run P w = .ok (.enter gf args) w)
    {encs : α → Array Value} {V : (Nat → Prop) → α → World → Prop} {n₀ : Nat} {S Sp : List α → Prop} {N : Nat} {w0 : World} (hseq : SeqPriv F (n - 1) P gf lb encs V n₀ S Sp N w0) (hb0 : Below w0.heap.size w0 w) (hn₀ : n₀ ≤ w.heap.size)
    (hps : ∀ x, (encs x).size = ps.size) (hV : ∀ p x W l o o', V p x W → ¬ p l → W.heap[l]? = some o → o.isCells = false → V p x (W.putObj l o'))
    (I : (Nat → Prop) → List α → World → Prop) (Ix : Code → (Nat → Prop) → List α → World → Prop) (hI : Shut w.heap.size I) (hIx : ∀ c, Shut w.heap.size (Ix c)) (h0 : I (fun _ => False) [] w)
    (A : α → Act → World → Prop) (hA : ∀ x a' W l o o', A x a' W → W.heap[l]? = some o → o.isCells = false → A x a' (W.putObj l o'))
    (hassign : ∀ (l : Nat) (p : Nat → Prop) (pre : List α) (x : α) (W : World) (K : Act → World → Prop), I p pre W → V p x W → w.heap.size ≤ W.heap.size → (∀ b, p b → w.heap.size ≤ b ∧ b < W.heap.size) →
      (∀ a' W', KeepsFrom w.heap.size W W' → KP n₀ p W W' → I p pre W' → V p x W' → A x a' W' → K a' W') →
      assign.wpIn (F.inRound l) (n - 1 - 1) P (Exit.then K (fun _ _ _ => False)) { tmps := (ps.zip (encs x)).foldl (fun t (p, v) => t.setIfInBounds p v) a.tmps, defers := [] } W)
    (hbody : ∀ (l : Nat) (p : Nat → Prop) (pre : List α) (x : α) (a' : Act) (W : World), I p pre W → V p x W → A x a' W → w.heap.size ≤ W.heap.size → (∀ b, p b → w.heap.size ≤ b ∧ b < W.heap.size) → pre.length < N →
      body.wpIn (F.inRound l) (n - 1 - 1) P (ownPostG w.heap.size (KP n₀ p) (I p) (fun c => Ix c p) (pre ++ [x]) W) a' W)
    (hdone : ∀ (D : Nat) (p : Nat → Prop) (xs : List α) (W : World), w.heap.size ≤ D → ¬ p D → S xs → I p xs W → W.heap[D]? = some (.deferred (some [])) → Q .normal { a with defers := { target := .collected D, args := #[] } :: a.defers } W)
    (hstop : ∀ (D : Nat) (c : Code) (p : Nat → Prop) (pre : List α) (W : World), w.heap.size ≤ D → ¬ p D → Sp pre → Ix c p pre W → W.heap[D]? = some (.deferred (some [])) → c.wpIn F n P Q { a with defers := { target := .collected D, args := #[] } :: a.defers } W) :
    (Code.rangeFunc g ps assign body).wpIn F n P Q a w := by
  refine wpIn_rangeFunc fun fn hfn => ?_
  rw [hro]
  let L : LoopState → Option Code → Obj := fun st pe => .loop { state := st, pending := pe, fn, tmps := a.tmps, params := ps, assign, body, defers := w.heap.size }
  let w2 := (w.alloc (.deferred (some []))).alloc (L .ready none)
  have s2 : w2.heap.size = w.heap.size + 2 := by simp [w2]
  have hB2 : Below w.heap.size w w2 := below_a2 (Nat.le_refl _) _ _
  have hl2 : w2.heap[w.heap.size + 1]? = some (L .ready none) := by
    have := World.alloc_heap_new (w.alloc (.deferred (some []))) (L .ready none)
    rwa [World.size_alloc] at this
  have hd2 : w2.heap[w.heap.size]? = some (.deferred (some [])) := (Below.heap_alloc (w.alloc (.deferred (some []))) _ _ (by simp)).trans (World.alloc_heap_new w _)
  -- what is known between two rounds of the two blocks that are laid here
  let G : Obj → (Nat → Prop) → World → Prop := fun o p W => w2.heap.size ≤ W.heap.size ∧ (∀ b, p b → w2.heap.size ≤ b ∧ b < W.heap.size) ∧ W.heap[w.heap.size + 1]? = some o ∧ W.heap[w.heap.size]? = some (.deferred (some []))
  have hG : ∀ {o : Obj} {p p' : Nat → Prop} {W W' : World} {row : Option Nat}, G o p W → W.grownBy W' row → (∀ r, row = some r → p r ∨ (w2.heap.size ≤ r ∧ ∃ o : Obj, W.heap[r]? = some o ∧ o.isCells = false)) → (∀ b, p' b → p b ∨ (W.heap.size ≤ b ∧ b < W'.heap.size)) → G o p' W' := by
    rintro o p p' W W' row ⟨g1, g2, g3, g4⟩ hg hr hp
    have hne : ∀ k, k < w2.heap.size → some k ≠ row := fun k hk e => by
      rcases hr k e.symm with h | h
      · have := (g2 k h).1; omega
      · omega
    refine ⟨Nat.le_trans g1 hg.size, fun b hb => ?_, (hg.block _ (by omega) (hne _ (by omega))).trans g3, (hg.block _ (by omega) (hne _ (by omega))).trans g4⟩
    have := hg.size
    rcases hp b hb with h | h
    · have := g2 b h; omega
    · omega
  have hmine : ∀ {p : Nat → Prop} {o : Obj} {W : World}, G o p W → ¬ p (w.heap.size + 1) ∧ ¬ p w.heap.size := fun hg => ⟨fun h => by have := (hg.2.1 _ h).1; omega, fun h => by have := (hg.2.1 _ h).1; omega⟩
  have hKb : ∀ {p : Nat → Prop} {o : Obj} {W : World} (st : LoopState) (pe : Option Code) (o' : Obj), o = L st pe → G o p W → KP n₀ p W (W.putObj (w.heap.size + 1) o') := fun st pe o' ho hg => by
    subst ho
    exact ⟨KT.bookkeeping hn₀ _ _ _ o' (by omega) hg.2.2.1 rfl rfl, fun b hb _ => World.putObj_heap_other (fun e => (hmine hg).1 (e ▸ hb))⟩
  have hput : ∀ {p : Nat → Prop} {o : Obj} {W : World} (o' : Obj), G o p W → G o' p (W.putObj (w.heap.size + 1) o') := fun o' hg => by
    have hlt := hg.1
    exact ⟨by simpa using hg.1, by simpa using hg.2.1, World.putObj_heap_same (by omega), (World.putObj_heap_other (by omega)).trans hg.2.2.2⟩
  refine ⟨w.heap.size + 1, [{ target := .collected w.heap.size, args := #[] }], w2, { target := .fn (.func gf) lb, args := #[.func (.yield (w.heap.size + 1)) #[] #[]] }, w2, gf, #[.func (.yield (w.heap.size + 1)) #[] #[]] ++ lb, w2,
    run_enterLoop_outer _ _ _ _ _, ?_, ?_, ?_, fun _ => h1, ?_⟩
  · simp only [resolve, hg]
    simp [go_sem]
  · intro f' hf'; simp [Target.leads] at hf'; subst hf'; exact hFg
  · simp [invoke, go_sem, eg]
  refine (hseq (w.heap.size + 1) (fun p pre W => I p pre W ∧ G (L .ready none) p W) (fun p pre W => ∃ c, Ix c p pre W ∧ G (L .done (some c)) p W) w2 (hb0.trans (hB2.mono hb0.size)) ?_ ?_ ?_ ?_).mono ?_
  · intro p p' s W W' row hs hg' hr hp
    exact ⟨hI p p' s W W' row hs.1 hg' (fun r e => (hr r e).imp id (fun h => ⟨by omega, h.2⟩)) hp, hG hs.2 hg' hr hp⟩
  · rintro p p' s W W' row ⟨c, hs1, hs2⟩ hg' hr hp
    exact ⟨c, hIx c p p' s W W' row hs1 hg' (fun r e => (hr r e).imp id (fun h => ⟨by omega, h.2⟩)) hp, hG hs2 hg' hr hp⟩
  · rintro p pre x W ⟨hi, hgd⟩ hv hlen
    have hpb : ∀ {o : Obj} {W : World}, G o p W → w.heap.size ≤ W.heap.size ∧ ∀ b, p b → w.heap.size ≤ b ∧ b < W.heap.size := fun h => ⟨by have := h.1; omega, fun b hb => by have := h.2.1 b hb; omega⟩
    refine ⟨fn, _, assign, body, run_yield hgd.2.2.1 (hps x), roundIn_of_wpIn hfn (hassign _ p pre x W _ hi hv (hpb hgd).1 (hpb hgd).2 fun a' W1 hk1 hkp1 hi1 hv1 ha1 => ?_)⟩
    have hg1 : G (L .ready none) p W1 := ⟨Nat.le_trans hgd.1 hk1.size, fun b hb => ⟨(hgd.2.1 b hb).1, Nat.lt_of_lt_of_le (hgd.2.1 b hb).2 hk1.size⟩, hk1.same _ _ (by omega) hgd.2.2.1 rfl, hk1.same _ _ (Nat.le_refl _) hgd.2.2.2 rfl⟩
    refine ⟨_, run_beginRound hg1.2.2.1 rfl, ?_⟩
    have hgb : G (L .busy none) p (W1.putObj (w.heap.size + 1) (L .busy none)) := hput _ hg1
    have hkp2 := hkp1.trans (hKb .ready none (L .busy none) rfl hg1)
    refine wpIn_mono (hbody _ p pre x a' (W1.putObj (w.heap.size + 1) (L .busy none)) (hI.put _ hi1 (by omega) hg1.2.2.1 rfl) (hV p x W1 _ _ _ hv1 (hmine hg1).1 hg1.2.2.1 rfl) (hA x a' W1 _ _ _ ha1 hg1.2.2.1 rfl) (hpb hgb).1 (hpb hgb).2 hlen) ?_
    have hfin : ∀ W3, KeepsFrom w.heap.size (W1.putObj (w.heap.size + 1) (L .busy none)) W3 → G (L .busy none) p W3 := fun W3 hk =>
      ⟨Nat.le_trans hgb.1 hk.size, fun b hb => ⟨(hgb.2.1 b hb).1, Nat.lt_of_lt_of_le (hgb.2.1 b hb).2 hk.size⟩, hk.same _ _ (by omega) hgb.2.2.1 rfl, hk.same _ _ (Nat.le_refl _) hgb.2.2.2 rfl⟩
    have hkf : ∀ (W3 : World) (o : Obj), KeepsFrom w.heap.size (W1.putObj (w.heap.size + 1) (L .busy none)) W3 → KeepsFrom w2.heap.size W (W3.putObj (w.heap.size + 1) o) := fun W3 o hk =>
      (((kf_up hk1 (by omega)).trans (kf_put _ (by omega))).trans (kf_up hk (by omega))).trans (kf_put o (by omega))
    have hjump : ∀ (c : Code) (W3 : World), KeepsFrom w.heap.size (W1.putObj (w.heap.size + 1) (L .busy none)) W3 → Ix c p (pre ++ [x]) W3 →
        ∃ v w', (Instr.endRound (w.heap.size + 1) (some c)).run P W3 = .ok v w' ∧ KeepsFrom w2.heap.size W w' ∧ ((Ending.returned v = .returned (.bool true) ∧ (I p (pre ++ [x]) w' ∧ G (L .ready none) p w') ∧ KP n₀ p W w') ∨ (Ending.returned v = .returned (.bool false) ∧ ∃ c, Ix c p (pre ++ [x]) w' ∧ G (L .done (some c)) p w')) := fun c W3 hk hx => by
      have hg3 := hfin W3 hk
      exact ⟨_, _, run_endRound (some c) hg3.2.2.1, hkf W3 _ hk, .inr ⟨rfl, c, (hIx c).put _ hx (by omega) hg3.2.2.1 rfl, hput _ hg3⟩⟩
    rintro e a3 W3 hp
    cases e with
    | normal =>
      obtain ⟨hk, hkp3, hi3⟩ := hp
      have hg3 := hfin W3 hk
      exact ⟨_, _, run_endRound none hg3.2.2.1, hkf W3 _ hk, .inl ⟨rfl, ⟨hI.put _ hi3 (by omega) hg3.2.2.1 rfl, hput _ hg3⟩, (hkp2.trans hkp3).trans (hKb .busy none _ rfl hg3)⟩⟩
    | ret => exact hjump _ W3 hp.1 hp.2
    | exit id => exact hjump _ W3 hp.1 hp.2
    | goto t => exact hjump _ W3 hp.1 hp.2
    | panic ch => exact hp.elim
    | outgrown => exact hp.elim
  · refine ⟨hI _ _ _ _ _ none (hI _ _ _ _ _ none h0 (World.grownBy_alloc w _ none) (fun r e => by cases e) (fun _ h => .inl h)) (World.grownBy_alloc _ _ none) (fun r e => by cases e) (fun _ h => .inl h), Nat.le_refl _, fun b hb => hb.elim, hl2, hd2⟩
  · rintro e W ⟨⟨v, rfl⟩, ⟨p, xs, hS, hi, hgd⟩ | ⟨p, pre, hSp, c, hi, hgd⟩⟩
    · exact ⟨none, _, run_endLoop hgd.2.2.1 (by simp), hdone _ p xs _ (Nat.le_refl _) (hmine hgd).2 hS (hI.put _ hi (by omega) hgd.2.2.1 rfl) ((World.putObj_heap_other (by omega)).trans hgd.2.2.2)⟩
    · exact ⟨some c, _, run_endLoop hgd.2.2.1 (by simp), hstop _ c p pre _ (Nat.le_refl _) (hmine hgd).2 hSp ((hIx c).put _ hi (by omega) hgd.2.2.1 rfl) ((World.putObj_heap_other (by omega)).trans hgd.2.2.2)⟩
end Go.Proofs.YtckoecmdaefoiaaDoor
