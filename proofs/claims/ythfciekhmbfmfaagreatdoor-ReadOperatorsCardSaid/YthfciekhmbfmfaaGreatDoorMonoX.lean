/- As XMono, but a call may panic: then the region ends. -/
import Derived.Test.YthfciekhmbfmfaaGreatDoorMono
namespace Go.Proofs.YthfciekhmbfmfaaGreatDoor.PanM
open Go Go.RowKit Go.Proofs.YthfciekhmbfmfaaGreatDoor

theorem put_defers (a : Act) (d : Option Tmp) (v : Value) : (a.put d v).defers = a.defers := by cases d <;> rfl
def monoUpon (P : Program) (X : List PanicEntry → World → Prop) (w : World) (p : Value → World → Prop) : Result Next → Prop
  | .ok (.value u) w' => Ext w w' ∧ p u w'
  | .ok .skip w' => Ext w w' ∧ p undef w'
  | .ok (.enter f args) w' => Ext w w' ∧ Calls P f args w' (fun e w'' => (∃ v, e = .returned v ∧ Ext w' w'' ∧ p v w'') ∨ ∃ ch, e = .panicked ch ∧ X ch w'')
  | _ => False

section
variable {P : Program} {ops : Array Oper} {md : Region.Mode} {X : List PanicEntry → World → Prop} {C : World → Prop} {ys : Nat → Yld}

def yieldsM (P : Program) (md : Region.Mode) (X : List PanicEntry → World → Prop) (C : World → Prop) (ys : Nat → Yld) (E : Nat → Option Value) (k : Nat) (o : Oper) (a : Act) : Prop :=
  ∀ w, C w → deps md ys o E w → monoUpon P X w (ys k).says ((execOp a.eval o).run P w)

def mOp (P : Program) (md : Region.Mode) (ops : Array Oper) (X : List PanicEntry → World → Prop) (C : World → Prop) (ys : Nat → Yld) (k : Nat) (K : (Nat → Option Value) → Act → Prop) (E : Nat → Option Value) (a : Act) : Prop :=
  match ops[k]? with
  | none => K E a
  | some o => if Region.wanted o (yielded ops a.tmps) then yieldsM P md X C ys E k o a ∧ nextM (ys k) k K E o.dst a else K E (a.put o.dst undef)

/-- The lexical walk. -/
def wpM (P : Program) (md : Region.Mode) (ops : Array Oper) (X : List PanicEntry → World → Prop) (C : World → Prop) (ys : Nat → Yld) (Q : Act → World → Prop) : List Oper → Nat → (Nat → Option Value) → Act → Prop
  | [], _, E, a => ∀ w, C w → (∀ i, Known ys E i w) → Q a w
  | o :: rest, k, E, a => if Region.wanted o (yielded ops a.tmps) then yieldsM P md X C ys E k o a ∧ nextM (ys k) k (wpM P md ops X C ys Q rest (k + 1)) E o.dst a else wpM P md ops X C ys Q rest (k + 1) E (a.put o.dst undef)

def wpAnyM (P : Program) (md : Region.Mode) (ops : Array Oper) (X : List PanicEntry → World → Prop) (C : World → Prop) (ys : Nat → Yld) (Q : Act → World → Prop) : Nat → Array Bool → (Nat → Option Value) → Act → Prop
  | 0, listed, E, a => Region.ready md ops listed = [] ∧ ∀ w, C w → (∀ i, Known ys E i w) → Q a w
  | fuel + 1, listed, E, a =>
    (Region.ready md ops listed = [] → ∀ w, C w → (∀ i, Known ys E i w) → Q a w) ∧
    ∀ i ∈ Region.ready md ops listed, mOp P md ops X C ys i (wpAnyM P md ops X C ys Q fuel (listed.setIfInBounds i true)) E a

theorem mOp_mono {k : Nat} {E : Nat → Option Value} {a : Act} {K K' : (Nat → Option Value) → Act → Prop} (h : ∀ E a, K E a → K' E a) (hh : mOp P md ops X C ys k K E a) : mOp P md ops X C ys k K' E a := by
  unfold mOp at *
  split
  · exact h _ _ (by simpa [*] using hh)
  · rename_i o ho
    simp only [ho] at hh
    split
    · rename_i hw; simp only [hw, if_true] at hh; exact ⟨hh.1, nextM_mono h hh.2⟩
    · rename_i hw; simp only [hw] at hh; exact h _ _ hh

theorem wpAny_of_mono {Q : Act → World → Prop} {Q' : Exit → Act → World → Prop} (hCx : ∀ w w', C w → Ext w w' → C w') (hys : ∀ i, (ys i).stable) (hQ : ∀ a w, C w → Q a w → Q' .normal a w) (D : List Deferred) (hX : ∀ ch a w, a.defers = D → X ch w → Q' (.panic ch) a w) :
    ∀ (fuel : Nat) (listed : Array Bool) (E : Nat → Option Value) (a : Act) (w : World), a.defers = D → C w → (∀ i, Known ys E i w) → wpAnyM P md ops X C ys Q fuel listed E a → wpAny P md ops Q' fuel listed a w := by
  intro fuel
  induction fuel with
  | zero => intro listed E a w hD hC hE h; exact ⟨h.1, hQ _ _ hC (h.2 w hC hE)⟩
  | succ fuel ih =>
    intro listed E a w hD hC hE h
    refine ⟨fun h0 => hQ _ _ hC (h.1 h0 w hC hE), fun i hi => ?_⟩
    have h1 := h.2 i hi
    have hgo : ∀ (o : Oper) (v : Value) (w' : World), Ext w w' → (ys i).says v w' → nextM (ys i) i (wpAnyM P md ops X C ys Q fuel (listed.setIfInBounds i true)) E o.dst a → wpAny P md ops Q' fuel (listed.setIfInBounds i true) (a.put o.dst v) w' := by
      intro o v w' he hs hn
      unfold nextM at hn
      cases hy : ys i with
      | det u =>
        rw [hy] at hs hn
        obtain rfl : v = u := hs
        exact ih _ _ _ _ ((put_defers _ _ _).trans hD) (hCx _ _ hC he) (Known.ext hys he hE) hn
      | any p =>
        have hs' := hs
        rw [hy] at hn
        exact ih _ _ _ _ ((put_defers _ _ _).trans hD) (hCx _ _ hC he) (Known.set (Known.ext hys he hE) hs') (hn v)
    unfold mOp at h1
    unfold wpOp
    split
    · rename_i ho; simp only [ho] at h1; exact ih _ _ _ _ hD hC hE h1
    · rename_i o ho
      simp only [ho] at h1
      split
      · rename_i hw
        simp only [hw, if_true] at h1
        obtain ⟨hy, hn⟩ := h1
        refine .inl ?_
        have h3 := hy w hC (fun e _ _ => hE e.on)
        unfold Oper.wp
        generalize (execOp a.eval o).run P w = r at *
        cases r with
        | ok n w' =>
          cases n <;> simp only [monoUpon] at h3 <;> simp only [Oper.upon]
          case value u => exact hgo o u w' h3.1 h3.2 hn
          case skip => exact hgo o undef w' h3.1 h3.2 hn
          case enter f args =>
            obtain ⟨he, hc⟩ := h3
            refine hc.mono fun e w'' h9 => ?_
            rcases h9 with ⟨v, rfl, he', hs⟩ | ⟨ch, rfl, hx⟩
            · exact hgo o v w'' (he.trans he') hs hn
            · exact hX ch a w'' hD hx
        | halt x w' => simp only [monoUpon] at h3
      · rename_i hw
        simp only [hw] at h1
        exact ih _ _ _ _ ((put_defers _ _ _).trans hD) hC hE h1

theorem yieldsM_put {k : Nat} {o : Oper} {E E' : Nat → Option Value} {a a' : Act} (he : execOp a'.eval o = execOp a.eval o) (hE : ∀ e, e ∈ o.after → Region.binds md e = true → E' e.on = E e.on)
    (h : yieldsM P md X C ys E k o a) : yieldsM P md X C ys E' k o a' := fun w hC hd => by
  rw [he]
  exact h w hC fun e h1 h2 v hv => hd e h1 h2 v (by rw [hE e h1 h2]; exact hv)

theorem wpAnyM_first {Q : Act → World → Prop} {i : Nat} {oi : Oper} (hi : ops[i]? = some oi) (hsel : ∀ (j : Nat) (o : Oper) cs b, ops[j]? = some o → o.op ≠ .select cs b) :
    ∀ (fuel : Nat) (listed : Array Bool) (E : Nat → Option Value) (a : Act),
      (∀ j oj, ops[j]? = some oj → j ≠ i → listed.getD j true = false → (∀ e ∈ oj.after, Region.binds md e = true → e.on ≠ i) → oi.apart ops oj = true) →
      i ∈ Region.ready md ops listed → mOp P md ops X C ys i (wpAnyM P md ops X C ys Q fuel (listed.setIfInBounds i true)) E a → wpAnyM P md ops X C ys Q (fuel + 1) listed E a := by
  intro fuel
  induction fuel with
  | zero =>
    intro listed E a _ hr H
    refine ⟨fun h => (by rw [h] at hr; cases hr), fun j hj => ?_⟩
    by_cases hji : j = i
    · subst hji; exact H
    · exfalso
      have hrj := ready_mono hj hji
      have hnil : Region.ready md ops (listed.setIfInBounds i true) = [] := by
        unfold mOp at H
        simp only [hi] at H
        split at H
        · have := H.2
          unfold nextM at this
          split at this
          · exact this.1
          · exact (this undef).1
        · exact H.1
      rw [hnil] at hrj
      cases hrj
  | succ fuel ih =>
    intro listed E a hfree hr H
    refine ⟨fun h => (by rw [h] at hr; cases hr), fun j hj => ?_⟩
    by_cases hji : j = i
    · subst hji; exact H
    · obtain ⟨hjun, oj, hoj, hall⟩ := mem_ready.1 hj
      have hnot : ∀ e ∈ oj.after, Region.binds md e = true → e.on ≠ i := fun e he hb heq => by
        have h1 := hall e he hb
        have h0 := (mem_ready.1 hr).1
        rw [heq] at h1
        rcases Nat.lt_or_ge i listed.size with h' | h'
        · simp [h'] at h0 h1; rw [h0] at h1; cases h1
        · simp [Array.getElem?_eq_none h'] at h1
      have hnot' : ∀ e ∈ oi.after, Region.binds md e = true → e.on ≠ j := fun e he hb heq => by
        obtain ⟨_, oi', hoi', hall'⟩ := mem_ready.1 hr
        rw [hi] at hoi'
        cases hoi'
        have h1 := hall' e he hb
        rw [heq] at h1
        rcases Nat.lt_or_ge j listed.size with h' | h'
        · simp [h'] at hjun h1; rw [hjun] at h1; cases h1
        · simp [Array.getElem?_eq_none h'] at h1
      have hap := hfree j oj hoj hji hjun hnot
      obtain ⟨h1, h2, h3⟩ := Oper.apart_spec hap
      have hfree' : ∀ k ok, ops[k]? = some ok → k ≠ i → (listed.setIfInBounds j true).getD k true = false →
          (∀ e ∈ ok.after, Region.binds md e = true → e.on ≠ i) → oi.apart ops ok = true := fun k ok hk hki hun hno => by
        refine hfree k ok hk hki ?_ hno
        by_cases hjk : j = k
        · subst hjk; exact hjun
        · rw [getD_set_ne true hjk] at hun; exact hun
      have hri := ready_mono hr (Ne.symm hji)
      -- what i's own walk says of j, whatever i has yielded
      unfold mOp at H
      simp only [hi] at H
      -- j is run ahead of i: E', d: what i would have added
      have key : ∀ (Ei : (Nat → Option Value) → Nat → Option Value) (x : Value), (∀ (E : Nat → Option Value) n, n ≠ i → Ei E n = E n) → (∀ (E : Nat → Option Value) u, Ei (setE E j u) = setE (Ei E) j u) →
          wpAnyM P md ops X C ys Q (fuel + 1) (listed.setIfInBounds i true) (Ei E) (a.put oi.dst x) →
          (if Region.wanted oj (yielded ops a.tmps) = true then yieldsM P md X C ys E j oj a ∧ nextM (ys j) j (fun E' a' => wpAnyM P md ops X C ys Q fuel ((listed.setIfInBounds j true).setIfInBounds i true) (Ei E') (a'.put oi.dst x)) E oj.dst a
           else wpAnyM P md ops X C ys Q fuel ((listed.setIfInBounds j true).setIfInBounds i true) (Ei E) ((a.put oj.dst undef).put oi.dst x)) := by
        intro Ei x hEi hEs hx
        have hj2 := hx.2 j (ready_mono hj hji)
        unfold mOp at hj2
        simp only [hoj] at hj2
        rw [wanted_put oj a oi.dst x h1] at hj2
        rw [Array.setIfInBounds_comm _ _ (Ne.symm hji)] at hj2
        split at hj2
        · rename_i hw
          rw [if_pos hw]
          refine ⟨yieldsM_put (execOp_put oj (fun cs b => hsel j oj cs b hoj) a oi.dst x h1).symm (fun e he hb => (hEi E _ (hnot e he hb)).symm) hj2.1, ?_⟩
          have := hj2.2
          unfold nextM at this ⊢
          cases hy : ys j with
          | det v => simp only [hy] at this ⊢; rw [← Act.put_comm a x v h2]; exact this
          | any p => simp only [hy] at this ⊢; intro u; rw [hEs, ← Act.put_comm a x u h2]; exact this u
        · rename_i hw
          rw [if_neg hw]
          rw [← Act.put_comm a x undef h2]
          exact hj2
      unfold mOp
      simp only [hoj]
      by_cases hwi : Region.wanted oi (yielded ops a.tmps) = true
      · simp only [hwi, if_true] at H
        obtain ⟨hyi, hni⟩ := H
        cases hy : ys i with
        | det x =>
          unfold nextM at hni
          simp only [hy] at hni
          have hk := key id x (fun _ _ _ => rfl) (fun _ _ => rfl) hni
          by_cases hwj : Region.wanted oj (yielded ops a.tmps) = true
          · rw [if_pos hwj] at hk ⊢
            refine ⟨hk.1, ?_⟩
            have hn := hk.2
            unfold nextM at hn ⊢
            have fin : ∀ (E' : Nat → Option Value) (u : Value), (∀ n, n ≠ j → E' n = E n) → wpAnyM P md ops X C ys Q fuel ((listed.setIfInBounds j true).setIfInBounds i true) E' ((a.put oj.dst u).put oi.dst x) →
                wpAnyM P md ops X C ys Q (fuel + 1) (listed.setIfInBounds j true) E' (a.put oj.dst u) := fun E' u hE' h => by
              refine ih (listed.setIfInBounds j true) E' _ hfree' hri ?_
              unfold mOp
              simp only [hi]
              rw [wanted_put oi a oj.dst u h3, if_pos hwi]
              refine ⟨yieldsM_put (execOp_put oi (fun cs b => hsel i oi cs b hi) a oj.dst u h3) (fun e he hb => hE' _ (hnot' e he hb)) hyi, ?_⟩
              unfold nextM
              simp only [hy]
              exact h
            cases hyj : ys j with
            | det v => simp only [hyj] at hn ⊢; exact fin _ v (fun _ _ => rfl) hn
            | any p => simp only [hyj] at hn ⊢; exact fun u => fin _ u (fun n hn => by simp [setE, hn]) (hn u)
          · rw [if_neg hwj] at hk ⊢
            refine ih (listed.setIfInBounds j true) E _ hfree' hri ?_
            unfold mOp
            simp only [hi]
            rw [wanted_put oi a oj.dst undef h3, if_pos hwi]
            refine ⟨yieldsM_put (execOp_put oi (fun cs b => hsel i oi cs b hi) a oj.dst undef h3) (fun _ _ _ => rfl) hyi, ?_⟩
            unfold nextM
            simp only [hy]
            exact hk
        | any p =>
          unfold nextM at hni
          simp only [hy] at hni
          have hk := fun x => key (fun E => setE E i x) x (fun E n hn => by simp [setE, hn]) (fun E u => setE_comm hji u x) (hni x)
          by_cases hwj : Region.wanted oj (yielded ops a.tmps) = true
          · simp only [hwj, if_true] at hk ⊢
            refine ⟨(hk undef).1, ?_⟩
            have hn := fun x => (hk x).2
            unfold nextM at hn ⊢
            have fin : ∀ (E' : Nat → Option Value) (u : Value), (∀ n, n ≠ j → E' n = E n) → (∀ x, wpAnyM P md ops X C ys Q fuel ((listed.setIfInBounds j true).setIfInBounds i true) (setE E' i x) ((a.put oj.dst u).put oi.dst x)) →
                wpAnyM P md ops X C ys Q (fuel + 1) (listed.setIfInBounds j true) E' (a.put oj.dst u) := fun E' u hE' h => by
              refine ih (listed.setIfInBounds j true) E' _ hfree' hri ?_
              unfold mOp
              simp only [hi]
              rw [wanted_put oi a oj.dst u h3, if_pos hwi]
              refine ⟨yieldsM_put (execOp_put oi (fun cs b => hsel i oi cs b hi) a oj.dst u h3) (fun e he hb => hE' _ (hnot' e he hb)) hyi, ?_⟩
              unfold nextM
              simp only [hy]
              exact h
            cases hyj : ys j with
            | det v => simp only [hyj] at hn ⊢; exact fin _ v (fun _ _ => rfl) hn
            | any q => simp only [hyj] at hn ⊢; exact fun u => fin _ u (fun n hn => by simp [setE, hn]) (fun x => hn x u)
          · simp only [hwj] at hk ⊢
            refine ih (listed.setIfInBounds j true) E _ hfree' hri ?_
            unfold mOp
            simp only [hi]
            rw [wanted_put oi a oj.dst undef h3, if_pos hwi]
            refine ⟨yieldsM_put (execOp_put oi (fun cs b => hsel i oi cs b hi) a oj.dst undef h3) (fun _ _ _ => rfl) hyi, ?_⟩
            unfold nextM
            simp only [hy]
            exact hk
      · simp only [hwi] at H
        have hk := key id undef (fun _ _ _ => rfl) (fun _ _ => rfl) H
        by_cases hwj : Region.wanted oj (yielded ops a.tmps) = true
        · rw [if_pos hwj] at hk ⊢
          refine ⟨hk.1, ?_⟩
          have hn := hk.2
          unfold nextM at hn ⊢
          have fin : ∀ (E' : Nat → Option Value) (u : Value), wpAnyM P md ops X C ys Q fuel ((listed.setIfInBounds j true).setIfInBounds i true) E' ((a.put oj.dst u).put oi.dst undef) →
              wpAnyM P md ops X C ys Q (fuel + 1) (listed.setIfInBounds j true) E' (a.put oj.dst u) := fun E' u h => by
            refine ih (listed.setIfInBounds j true) E' _ hfree' hri ?_
            unfold mOp
            simp only [hi]
            rw [wanted_put oi a oj.dst u h3, if_neg hwi]
            exact h
          cases hyj : ys j with
          | det v => simp only [hyj] at hn ⊢; exact fin _ v hn
          | any q => simp only [hyj] at hn ⊢; exact fun u => fin _ u (hn u)
        · rw [if_neg hwj] at hk ⊢
          refine ih (listed.setIfInBounds j true) E _ hfree' hri ?_
          unfold mOp
          simp only [hi]
          rw [wanted_put oi a oj.dst undef h3, if_neg hwi]
          exact hk

theorem wpAnyM_lex {Q : Act → World → Prop} (hs : Region.noSelect ops = true) : ∀ (l : List Oper) (k : Nat) (listed : Array Bool) (E : Nat → Option Value) (a : Act), (∀ j, l[j]? = ops[k + j]?) →
    Region.lexFrom md ops l.length k listed = true → wpM P md ops X C ys Q l k E a → wpAnyM P md ops X C ys Q l.length listed E a
  | [], _, _, _, _, _, hB, h => ⟨by simpa [Region.lexFrom] using hB, h⟩
  | o :: l, k, listed, E, a, hl, hB, h => by
    have h0 : ops[k]? = some o := by simpa using (hl 0).symm
    simp only [List.length_cons, Region.lexFrom, Bool.and_eq_true] at hB
    obtain ⟨⟨hr, hf⟩, hB'⟩ := hB
    have hst : mOp P md ops X C ys k (wpM P md ops X C ys Q l (k + 1)) E a := by unfold mOp; simp only [h0]; exact h
    exact wpAnyM_first h0 (Region.noSelect_spec hs) l.length listed E a (Region.free_spec h0 hf) (by simpa using hr)
      (mOp_mono (fun E a h => wpAnyM_lex hs l (k + 1) _ E a (fun j => by have := hl (j + 1); simpa [Nat.add_assoc, Nat.add_comm 1 j] using this) hB' h) hst)

/-- ONE WALK OF THE LEXICAL ORDER, what each operation yields being said beforehand. -/
theorem wp_region_mono {id : Nat} {Q : Exit → Act → World → Prop} {a : Act} {w : World} {l : List Oper} (yl : List Yld) (X : List PanicEntry → World → Prop) (hm : P.follows .mixedOrders = true) (hB : Region.lexB .any l.toArray = true)
    (hys : ∀ y, y ∈ yl → y.stable) (hX : ∀ ch a' w, a'.defers = a.defers → X ch w → Q (.panic ch) a' w) (h : wpM P .any l.toArray X (Ext w) (fun i => yl.getD i (.any fun _ _ => True)) (fun a' w' => Q .normal a' w') l 0 (fun _ => none) a) : (Code.region id l.toArray true).wp P Q a w := by
  simp only [Region.lexB, Bool.and_eq_true] at hB
  refine wp_region_any hm (wpAny_of_mono (C := Ext w) (ys := fun i => yl.getD i (.any fun _ _ => True)) (Q := fun a' w' => Q .normal a' w') (fun _ _ h1 h2 => h1.trans h2) ?_ (fun _ _ _ h => h) a.defers hX _ _ (fun _ => none) _ _ rfl (Below.refl _ _ |>.drew) (fun i v hv => by cases hv) ?_)
  · intro i
    by_cases hi : i < yl.length
    · simp only [List.getD, List.getElem?_eq_getElem hi, Option.getD_some]
      exact hys _ (List.getElem_mem hi)
    · simp only [List.getD, List.getElem?_eq_none (Nat.le_of_not_lt hi), Option.getD_none]
      exact fun _ _ _ _ _ => trivial
  · have := wpAnyM_lex (C := Ext w) (ys := fun i => yl.getD i (.any fun _ _ => True)) (P := P) (md := .any) (Q := fun a' w' => Q .normal a' w') hB.1 l 0 (Array.replicate l.toArray.size false) (fun _ => none) a (by simp) (by simpa using hB.2) h
    simpa using this

theorem wpM_step {Q : Act → World → Prop} {o : Oper} {rest : List Oper} {k : Nat} {E : Nat → Option Value} {a : Act}
    (h : ∀ K : (Nat → Option Value) → Act → Prop, (∀ E a, wpM P md ops X C ys Q rest (k + 1) E a → K E a) → if Region.wanted o (yielded ops a.tmps) then yieldsM P md X C ys E k o a ∧ nextM (ys k) k K E o.dst a else K E (a.put o.dst undef)) :
    wpM P md ops X C ys Q (o :: rest) k E a := h _ (fun _ _ h => h)
theorem wpM_nil {Q : Act → World → Prop} {k : Nat} {E : Nat → Option Value} {a : Act} (h : ∀ w, C w → (∀ i, Known ys E i w) → Q a w) : wpM P md ops X C ys Q [] k E a := h
end
end Go.Proofs.YthfciekhmbfmfaaGreatDoor.PanM
