/- A region that draws its order, whose operations read, compute, make memory and call: one walk of the lexical order serves every order, if what each operation yields is said beforehand, by a value or by a predicate that new memory does not break. -/
import Derived.Deep.Quiet
import Derived.Below
import Derived.Tactics
import Derived.Tactics2
import Derived.KernelRfl
import Derived.StillTail
import Derived.OrdersIn
import Derived.OwnWalkIn
import Derived.RangeFuncCalls
namespace Go.Proofs.YthfciekhmbfmfaaGreatDoor
open Go Go.RowKit

/-- All blocks that there are stay as they are. -/
def Ext (w w' : World) : Prop := Below w.heap.size w w'
theorem Ext.refl (w : World) : Ext w w := Below.refl _ _
theorem Ext.trans {a b c : World} (h : Ext a b) (k : Ext b c) : Ext a c := Below.trans h (Below.mono k h.size)

theorem Ext.old {W w1 : World} (hb : Ext W w1) : (∀ b o, b < W.heap.size → w1.cell? ⟨b, o, none⟩ = W.cell? ⟨b, o, none⟩) ∧ (∀ b o, b < W.heap.size → w1.frozen? ⟨b, o, none⟩ = W.frozen? ⟨b, o, none⟩) ∧ W.heap.size ≤ w1.heap.size :=
  ⟨fun b o h => Below.cell hb (p := ⟨b, o, none⟩) h, fun b o h => Below.frozen hb (p := ⟨b, o, none⟩) h, Below.size hb⟩

/-- What an operation yields: one value; or whatever a predicate lets. -/
inductive Yld where
  | det (v : Value)
  | any (p : Value → World → Prop)

def Yld.says : Yld → Value → World → Prop
  | .det v, u, _ => u = v
  | .any p, u, w => p u w
def Yld.stable : Yld → Prop
  | .det _ => True
  | .any p => ∀ u w w', Ext w w' → p u w → p u w'
theorem Yld.keep {y : Yld} (h : y.stable) {u : Value} {w w' : World} (he : Ext w w') (hs : y.says u w) : y.says u w' := by
  cases y with
  | det v => exact hs
  | any p => exact h _ _ _ he hs

def monoUpon (P : Program) (w : World) (p : Value → World → Prop) : Result Next → Prop
  | .ok (.value u) w' => Ext w w' ∧ p u w'
  | .ok .skip w' => Ext w w' ∧ p undef w'
  | .ok (.enter f args) w' => Ext w w' ∧ Calls P f args w' (fun e w'' => ∃ v, e = .returned v ∧ Ext w' w'' ∧ p v w'')
  | _ => False

section
variable {P : Program} {ops : Array Oper} {md : Region.Mode} {C : World → Prop} {ys : Nat → Yld}

/-- The values of the operations that have come up, as far as they are left open. -/
def setE (E : Nat → Option Value) (k : Nat) (v : Value) : Nat → Option Value := fun i => if i = k then some v else E i

def Known (ys : Nat → Yld) (E : Nat → Option Value) (i : Nat) (w : World) : Prop := ∀ v, E i = some v → (ys i).says v w

def deps (md : Region.Mode) (ys : Nat → Yld) (o : Oper) (E : Nat → Option Value) (w : World) : Prop := ∀ e, e ∈ o.after → Region.binds md e = true → Known ys E e.on w

def yieldsM (P : Program) (md : Region.Mode) (C : World → Prop) (ys : Nat → Yld) (E : Nat → Option Value) (k : Nat) (o : Oper) (a : Act) : Prop :=
  ∀ w, C w → deps md ys o E w → monoUpon P w (ys k).says ((execOp a.eval o).run P w)

/-- What follows behind an operation. -/
def nextM (y : Yld) (k : Nat) (K : (Nat → Option Value) → Act → Prop) (E : Nat → Option Value) (d : Option Tmp) (a : Act) : Prop :=
  match y with
  | .det v => K E (a.put d v)
  | .any _ => ∀ v, K (setE E k v) (a.put d v)

theorem nextM_mono {y : Yld} {k : Nat} {K K' : (Nat → Option Value) → Act → Prop} {E : Nat → Option Value} {d : Option Tmp} {a : Act} (h : ∀ E a, K E a → K' E a) (hh : nextM y k K E d a) : nextM y k K' E d a := by
  cases y with
  | det v => exact h _ _ hh
  | any p => exact fun v => h _ _ (hh v)

def mOp (P : Program) (md : Region.Mode) (ops : Array Oper) (C : World → Prop) (ys : Nat → Yld) (k : Nat) (K : (Nat → Option Value) → Act → Prop) (E : Nat → Option Value) (a : Act) : Prop :=
  match ops[k]? with
  | none => K E a
  | some o => if Region.wanted o (yielded ops a.tmps) then yieldsM P md C ys E k o a ∧ nextM (ys k) k K E o.dst a else K E (a.put o.dst undef)

/-- The lexical walk. -/
def wpM (P : Program) (md : Region.Mode) (ops : Array Oper) (C : World → Prop) (ys : Nat → Yld) (Q : Act → World → Prop) : List Oper → Nat → (Nat → Option Value) → Act → Prop
  | [], _, E, a => ∀ w, C w → (∀ i, Known ys E i w) → Q a w
  | o :: rest, k, E, a => if Region.wanted o (yielded ops a.tmps) then yieldsM P md C ys E k o a ∧ nextM (ys k) k (wpM P md ops C ys Q rest (k + 1)) E o.dst a else wpM P md ops C ys Q rest (k + 1) E (a.put o.dst undef)

def wpAnyM (P : Program) (md : Region.Mode) (ops : Array Oper) (C : World → Prop) (ys : Nat → Yld) (Q : Act → World → Prop) : Nat → Array Bool → (Nat → Option Value) → Act → Prop
  | 0, listed, E, a => Region.ready md ops listed = [] ∧ ∀ w, C w → (∀ i, Known ys E i w) → Q a w
  | fuel + 1, listed, E, a =>
    (Region.ready md ops listed = [] → ∀ w, C w → (∀ i, Known ys E i w) → Q a w) ∧
    ∀ i ∈ Region.ready md ops listed, mOp P md ops C ys i (wpAnyM P md ops C ys Q fuel (listed.setIfInBounds i true)) E a

theorem mOp_mono {k : Nat} {E : Nat → Option Value} {a : Act} {K K' : (Nat → Option Value) → Act → Prop} (h : ∀ E a, K E a → K' E a) (hh : mOp P md ops C ys k K E a) : mOp P md ops C ys k K' E a := by
  unfold mOp at *
  split
  · exact h _ _ (by simpa [*] using hh)
  · rename_i o ho
    simp only [ho] at hh
    split
    · rename_i hw; simp only [hw, if_true] at hh; exact ⟨hh.1, nextM_mono h hh.2⟩
    · rename_i hw; simp only [hw] at hh; exact h _ _ hh

theorem Known.ext {E : Nat → Option Value} {w w' : World} (hy : ∀ i, (ys i).stable) (he : Ext w w') (h : ∀ i, Known ys E i w) : ∀ i, Known ys E i w' := fun i v hv => Yld.keep (hy i) he (h i v hv)

theorem Known.set {E : Nat → Option Value} {w : World} {k : Nat} {v : Value} (h : ∀ i, Known ys E i w) (hk : (ys k).says v w) : ∀ i, Known ys (setE E k v) i w := fun i u hu => by
  unfold setE at hu
  split at hu
  · rename_i e; subst e; cases hu; exact hk
  · exact h i u hu

theorem wpAny_of_mono {Q : Act → World → Prop} {Q' : Exit → Act → World → Prop} (hCx : ∀ w w', C w → Ext w w' → C w') (hys : ∀ i, (ys i).stable) (hQ : ∀ a w, C w → Q a w → Q' .normal a w) :
    ∀ (fuel : Nat) (listed : Array Bool) (E : Nat → Option Value) (a : Act) (w : World), C w → (∀ i, Known ys E i w) → wpAnyM P md ops C ys Q fuel listed E a → wpAny P md ops Q' fuel listed a w := by
  intro fuel
  induction fuel with
  | zero => intro listed E a w hC hE h; exact ⟨h.1, hQ _ _ hC (h.2 w hC hE)⟩
  | succ fuel ih =>
    intro listed E a w hC hE h
    refine ⟨fun h0 => hQ _ _ hC (h.1 h0 w hC hE), fun i hi => ?_⟩
    have h1 := h.2 i hi
    have hgo : ∀ (o : Oper) (v : Value) (w' : World), Ext w w' → (ys i).says v w' → nextM (ys i) i (wpAnyM P md ops C ys Q fuel (listed.setIfInBounds i true)) E o.dst a → wpAny P md ops Q' fuel (listed.setIfInBounds i true) (a.put o.dst v) w' := by
      intro o v w' he hs hn
      unfold nextM at hn
      cases hy : ys i with
      | det u =>
        rw [hy] at hs hn
        obtain rfl : v = u := hs
        exact ih _ _ _ _ (hCx _ _ hC he) (Known.ext hys he hE) hn
      | any p =>
        have hs' := hs
        rw [hy] at hn
        exact ih _ _ _ _ (hCx _ _ hC he) (Known.set (Known.ext hys he hE) hs') (hn v)
    unfold mOp at h1
    unfold wpOp
    split
    · rename_i ho; simp only [ho] at h1; exact ih _ _ _ _ hC hE h1
    · rename_i o ho
      simp only [ho] at h1
      split
      · rename_i hw
        simp only [hw, if_true] at h1
        obtain ⟨hy, hn⟩ := h1
        refine .inl ?_
        have h3 := hy w hC (fun e _ _ => hE e.on)
        unfold Oper.wp
        generalize (execOp a.eval o).run P w = r at *
        cases r with
        | ok n w' =>
          cases n <;> simp only [monoUpon] at h3 <;> simp only [Oper.upon]
          case value u => exact hgo o u w' h3.1 h3.2 hn
          case skip => exact hgo o undef w' h3.1 h3.2 hn
          case enter f args =>
            obtain ⟨he, hc⟩ := h3
            exact hc.mono fun e w'' ⟨v, hv, he', hs⟩ => by subst hv; exact hgo o v w'' (he.trans he') hs hn
        | halt x w' => simp only [monoUpon] at h3
      · rename_i hw
        simp only [hw] at h1
        exact ih _ _ _ _ hC hE h1

theorem yieldsM_put {k : Nat} {o : Oper} {E E' : Nat → Option Value} {a a' : Act} (he : execOp a'.eval o = execOp a.eval o) (hE : ∀ e, e ∈ o.after → Region.binds md e = true → E' e.on = E e.on)
    (h : yieldsM P md C ys E k o a) : yieldsM P md C ys E' k o a' := fun w hC hd => by
  rw [he]
  exact h w hC fun e h1 h2 v hv => hd e h1 h2 v (by rw [hE e h1 h2]; exact hv)

theorem setE_comm {E : Nat → Option Value} {i j : Nat} (h : i ≠ j) (u v : Value) : setE (setE E i u) j v = setE (setE E j v) i u := by
  funext n
  unfold setE
  by_cases h1 : n = i <;> by_cases h2 : n = j <;> simp [h1, h2]
  · exact absurd (h1.symm.trans h2) h
  · intro e; exact absurd e h
  · intro e; exact absurd e.symm h

theorem wpAnyM_first {Q : Act → World → Prop} {i : Nat} {oi : Oper} (hi : ops[i]? = some oi) (hsel : ∀ (j : Nat) (o : Oper) cs b, ops[j]? = some o → o.op ≠ .select cs b) :
    ∀ (fuel : Nat) (listed : Array Bool) (E : Nat → Option Value) (a : Act),
      (∀ j oj, ops[j]? = some oj → j ≠ i → listed.getD j true = false → (∀ e ∈ oj.after, Region.binds md e = true → e.on ≠ i) → oi.apart ops oj = true) →
      i ∈ Region.ready md ops listed → mOp P md ops C ys i (wpAnyM P md ops C ys Q fuel (listed.setIfInBounds i true)) E a → wpAnyM P md ops C ys Q (fuel + 1) listed E a := by
  intro fuel
  induction fuel with
  | zero =>
    intro listed E a _ hr H
    refine ⟨fun h => (by rw [h] at hr; cases hr), fun j hj => ?_⟩
    by_cases hji : j = i
    · subst hji; exact H
    · exfalso
      have hrj := ready_mono hj hji
      have hnil : Region.ready md ops (listed.setIfInBounds i true) = [] := by
        unfold mOp at H
        simp only [hi] at H
        split at H
        · have := H.2
          unfold nextM at this
          split at this
          · exact this.1
          · exact (this undef).1
        · exact H.1
      rw [hnil] at hrj
      cases hrj
  | succ fuel ih =>
    intro listed E a hfree hr H
    refine ⟨fun h => (by rw [h] at hr; cases hr), fun j hj => ?_⟩
    by_cases hji : j = i
    · subst hji; exact H
    · obtain ⟨hjun, oj, hoj, hall⟩ := mem_ready.1 hj
      have hnot : ∀ e ∈ oj.after, Region.binds md e = true → e.on ≠ i := fun e he hb heq => by
        have h1 := hall e he hb
        have h0 := (mem_ready.1 hr).1
        rw [heq] at h1
        rcases Nat.lt_or_ge i listed.size with h' | h'
        · simp [h'] at h0 h1; rw [h0] at h1; cases h1
        · simp [Array.getElem?_eq_none h'] at h1
      have hnot' : ∀ e ∈ oi.after, Region.binds md e = true → e.on ≠ j := fun e he hb heq => by
        obtain ⟨_, oi', hoi', hall'⟩ := mem_ready.1 hr
        rw [hi] at hoi'
        cases hoi'
        have h1 := hall' e he hb
        rw [heq] at h1
        rcases Nat.lt_or_ge j listed.size with h' | h'
        · simp [h'] at hjun h1; rw [hjun] at h1; cases h1
        · simp [Array.getElem?_eq_none h'] at h1
      have hap := hfree j oj hoj hji hjun hnot
      obtain ⟨h1, h2, h3⟩ := Oper.apart_spec hap
      have hfree' : ∀ k ok, ops[k]? = some ok → k ≠ i → (listed.setIfInBounds j true).getD k true = false →
          (∀ e ∈ ok.after, Region.binds md e = true → e.on ≠ i) → oi.apart ops ok = true := fun k ok hk hki hun hno => by
        refine hfree k ok hk hki ?_ hno
        by_cases hjk : j = k
        · subst hjk; exact hjun
        · rw [getD_set_ne true hjk] at hun; exact hun
      have hri := ready_mono hr (Ne.symm hji)
      -- what i's own walk says of j, whatever i has yielded
      unfold mOp at H
      simp only [hi] at H
      -- j is run ahead of i: E', d: what i would have added
      have key : ∀ (Ei : (Nat → Option Value) → Nat → Option Value) (x : Value), (∀ (E : Nat → Option Value) n, n ≠ i → Ei E n = E n) → (∀ (E : Nat → Option Value) u, Ei (setE E j u) = setE (Ei E) j u) →
          wpAnyM P md ops C ys Q (fuel + 1) (listed.setIfInBounds i true) (Ei E) (a.put oi.dst x) →
          (if Region.wanted oj (yielded ops a.tmps) = true then yieldsM P md C ys E j oj a ∧ nextM (ys j) j (fun E' a' => wpAnyM P md ops C ys Q fuel ((listed.setIfInBounds j true).setIfInBounds i true) (Ei E') (a'.put oi.dst x)) E oj.dst a
           else wpAnyM P md ops C ys Q fuel ((listed.setIfInBounds j true).setIfInBounds i true) (Ei E) ((a.put oj.dst undef).put oi.dst x)) := by
        intro Ei x hEi hEs hx
        have hj2 := hx.2 j (ready_mono hj hji)
        unfold mOp at hj2
        simp only [hoj] at hj2
        rw [wanted_put oj a oi.dst x h1] at hj2
        rw [Array.setIfInBounds_comm _ _ (Ne.symm hji)] at hj2
        split at hj2
        · rename_i hw
          rw [if_pos hw]
          refine ⟨yieldsM_put (execOp_put oj (fun cs b => hsel j oj cs b hoj) a oi.dst x h1).symm (fun e he hb => (hEi E _ (hnot e he hb)).symm) hj2.1, ?_⟩
          have := hj2.2
          unfold nextM at this ⊢
          cases hy : ys j with
          | det v => simp only [hy] at this ⊢; rw [← Act.put_comm a x v h2]; exact this
          | any p => simp only [hy] at this ⊢; intro u; rw [hEs, ← Act.put_comm a x u h2]; exact this u
        · rename_i hw
          rw [if_neg hw]
          rw [← Act.put_comm a x undef h2]
          exact hj2
      unfold mOp
      simp only [hoj]
      by_cases hwi : Region.wanted oi (yielded ops a.tmps) = true
      · simp only [hwi, if_true] at H
        obtain ⟨hyi, hni⟩ := H
        cases hy : ys i with
        | det x =>
          unfold nextM at hni
          simp only [hy] at hni
          have hk := key id x (fun _ _ _ => rfl) (fun _ _ => rfl) hni
          by_cases hwj : Region.wanted oj (yielded ops a.tmps) = true
          · rw [if_pos hwj] at hk ⊢
            refine ⟨hk.1, ?_⟩
            have hn := hk.2
            unfold nextM at hn ⊢
            have fin : ∀ (E' : Nat → Option Value) (u : Value), (∀ n, n ≠ j → E' n = E n) → wpAnyM P md ops C ys Q fuel ((listed.setIfInBounds j true).setIfInBounds i true) E' ((a.put oj.dst u).put oi.dst x) →
                wpAnyM P md ops C ys Q (fuel + 1) (listed.setIfInBounds j true) E' (a.put oj.dst u) := fun E' u hE' h => by
              refine ih (listed.setIfInBounds j true) E' _ hfree' hri ?_
              unfold mOp
              simp only [hi]
              rw [wanted_put oi a oj.dst u h3, if_pos hwi]
              refine ⟨yieldsM_put (execOp_put oi (fun cs b => hsel i oi cs b hi) a oj.dst u h3) (fun e he hb => hE' _ (hnot' e he hb)) hyi, ?_⟩
              unfold nextM
              simp only [hy]
              exact h
            cases hyj : ys j with
            | det v => simp only [hyj] at hn ⊢; exact fin _ v (fun _ _ => rfl) hn
            | any p => simp only [hyj] at hn ⊢; exact fun u => fin _ u (fun n hn => by simp [setE, hn]) (hn u)
          · rw [if_neg hwj] at hk ⊢
            refine ih (listed.setIfInBounds j true) E _ hfree' hri ?_
            unfold mOp
            simp only [hi]
            rw [wanted_put oi a oj.dst undef h3, if_pos hwi]
            refine ⟨yieldsM_put (execOp_put oi (fun cs b => hsel i oi cs b hi) a oj.dst undef h3) (fun _ _ _ => rfl) hyi, ?_⟩
            unfold nextM
            simp only [hy]
            exact hk
        | any p =>
          unfold nextM at hni
          simp only [hy] at hni
          have hk := fun x => key (fun E => setE E i x) x (fun E n hn => by simp [setE, hn]) (fun E u => setE_comm hji u x) (hni x)
          by_cases hwj : Region.wanted oj (yielded ops a.tmps) = true
          · simp only [hwj, if_true] at hk ⊢
            refine ⟨(hk undef).1, ?_⟩
            have hn := fun x => (hk x).2
            unfold nextM at hn ⊢
            have fin : ∀ (E' : Nat → Option Value) (u : Value), (∀ n, n ≠ j → E' n = E n) → (∀ x, wpAnyM P md ops C ys Q fuel ((listed.setIfInBounds j true).setIfInBounds i true) (setE E' i x) ((a.put oj.dst u).put oi.dst x)) →
                wpAnyM P md ops C ys Q (fuel + 1) (listed.setIfInBounds j true) E' (a.put oj.dst u) := fun E' u hE' h => by
              refine ih (listed.setIfInBounds j true) E' _ hfree' hri ?_
              unfold mOp
              simp only [hi]
              rw [wanted_put oi a oj.dst u h3, if_pos hwi]
              refine ⟨yieldsM_put (execOp_put oi (fun cs b => hsel i oi cs b hi) a oj.dst u h3) (fun e he hb => hE' _ (hnot' e he hb)) hyi, ?_⟩
              unfold nextM
              simp only [hy]
              exact h
            cases hyj : ys j with
            | det v => simp only [hyj] at hn ⊢; exact fin _ v (fun _ _ => rfl) hn
            | any q => simp only [hyj] at hn ⊢; exact fun u => fin _ u (fun n hn => by simp [setE, hn]) (fun x => hn x u)
          · simp only [hwj] at hk ⊢
            refine ih (listed.setIfInBounds j true) E _ hfree' hri ?_
            unfold mOp
            simp only [hi]
            rw [wanted_put oi a oj.dst undef h3, if_pos hwi]
            refine ⟨yieldsM_put (execOp_put oi (fun cs b => hsel i oi cs b hi) a oj.dst undef h3) (fun _ _ _ => rfl) hyi, ?_⟩
            unfold nextM
            simp only [hy]
            exact hk
      · simp only [hwi] at H
        have hk := key id undef (fun _ _ _ => rfl) (fun _ _ => rfl) H
        by_cases hwj : Region.wanted oj (yielded ops a.tmps) = true
        · rw [if_pos hwj] at hk ⊢
          refine ⟨hk.1, ?_⟩
          have hn := hk.2
          unfold nextM at hn ⊢
          have fin : ∀ (E' : Nat → Option Value) (u : Value), wpAnyM P md ops C ys Q fuel ((listed.setIfInBounds j true).setIfInBounds i true) E' ((a.put oj.dst u).put oi.dst undef) →
              wpAnyM P md ops C ys Q (fuel + 1) (listed.setIfInBounds j true) E' (a.put oj.dst u) := fun E' u h => by
            refine ih (listed.setIfInBounds j true) E' _ hfree' hri ?_
            unfold mOp
            simp only [hi]
            rw [wanted_put oi a oj.dst u h3, if_neg hwi]
            exact h
          cases hyj : ys j with
          | det v => simp only [hyj] at hn ⊢; exact fin _ v hn
          | any q => simp only [hyj] at hn ⊢; exact fun u => fin _ u (hn u)
        · rw [if_neg hwj] at hk ⊢
          refine ih (listed.setIfInBounds j true) E _ hfree' hri ?_
          unfold mOp
          simp only [hi]
          rw [wanted_put oi a oj.dst undef h3, if_neg hwi]
          exact hk

theorem wpAnyM_lex {Q : Act → World → Prop} (hs : Region.noSelect ops = true) : ∀ (l : List Oper) (k : Nat) (listed : Array Bool) (E : Nat → Option Value) (a : Act), (∀ j, l[j]? = ops[k + j]?) →
    Region.lexFrom md ops l.length k listed = true → wpM P md ops C ys Q l k E a → wpAnyM P md ops C ys Q l.length listed E a
  | [], _, _, _, _, _, hB, h => ⟨by simpa [Region.lexFrom] using hB, h⟩
  | o :: l, k, listed, E, a, hl, hB, h => by
    have h0 : ops[k]? = some o := by simpa using (hl 0).symm
    simp only [List.length_cons, Region.lexFrom, Bool.and_eq_true] at hB
    obtain ⟨⟨hr, hf⟩, hB'⟩ := hB
    have hst : mOp P md ops C ys k (wpM P md ops C ys Q l (k + 1)) E a := by unfold mOp; simp only [h0]; exact h
    exact wpAnyM_first h0 (Region.noSelect_spec hs) l.length listed E a (Region.free_spec h0 hf) (by simpa using hr)
      (mOp_mono (fun E a h => wpAnyM_lex hs l (k + 1) _ E a (fun j => by have := hl (j + 1); simpa [Nat.add_assoc, Nat.add_comm 1 j] using this) hB' h) hst)

/-- ONE WALK OF THE LEXICAL ORDER, what each operation yields being said beforehand. -/
theorem wp_region_mono {id : Nat} {Q : Exit → Act → World → Prop} {a : Act} {w : World} {l : List Oper} (yl : List Yld) (hm : P.follows .mixedOrders = true) (hB : Region.lexB .any l.toArray = true)
    (hys : ∀ y, y ∈ yl → y.stable) (h : wpM P .any l.toArray (Ext w) (fun i => yl.getD i (.any fun _ _ => True)) (fun a' w' => Q .normal a' w') l 0 (fun _ => none) a) : (Code.region id l.toArray true).wp P Q a w := by
  simp only [Region.lexB, Bool.and_eq_true] at hB
  refine wp_region_any hm (wpAny_of_mono (C := Ext w) (ys := fun i => yl.getD i (.any fun _ _ => True)) (Q := fun a' w' => Q .normal a' w') (fun _ _ h1 h2 => h1.trans h2) ?_ (fun _ _ _ h => h) _ _ (fun _ => none) _ _ (Below.refl _ _ |>.drew) (fun i v hv => by cases hv) ?_)
  · intro i
    by_cases hi : i < yl.length
    · simp only [List.getD, List.getElem?_eq_getElem hi, Option.getD_some]
      exact hys _ (List.getElem_mem hi)
    · simp only [List.getD, List.getElem?_eq_none (Nat.le_of_not_lt hi), Option.getD_none]
      exact fun _ _ _ _ _ => trivial
  · have := wpAnyM_lex (C := Ext w) (ys := fun i => yl.getD i (.any fun _ _ => True)) (P := P) (md := .any) (Q := fun a' w' => Q .normal a' w') hB.1 l 0 (Array.replicate l.toArray.size false) (fun _ => none) a (by simp) (by simpa using hB.2) h
    simpa using this

theorem wpM_step {Q : Act → World → Prop} {o : Oper} {rest : List Oper} {k : Nat} {E : Nat → Option Value} {a : Act}
    (h : ∀ K : (Nat → Option Value) → Act → Prop, (∀ E a, wpM P md ops C ys Q rest (k + 1) E a → K E a) → if Region.wanted o (yielded ops a.tmps) then yieldsM P md C ys E k o a ∧ nextM (ys k) k K E o.dst a else K E (a.put o.dst undef)) :
    wpM P md ops C ys Q (o :: rest) k E a := h _ (fun _ _ h => h)
theorem wpM_nil {Q : Act → World → Prop} {k : Nat} {E : Nat → Option Value} {a : Act} (h : ∀ w, C w → (∀ i, Known ys E i w) → Q a w) : wpM P md ops C ys Q [] k E a := h
theorem nextM_det {v : Value} {k : Nat} {K : (Nat → Option Value) → Act → Prop} {E : Nat → Option Value} {d : Option Tmp} {a : Act} (h : K E (a.put d v)) : nextM (.det v) k K E d a := h
theorem nextM_any {p : Value → World → Prop} {k : Nat} {K : (Nat → Option Value) → Act → Prop} {E : Nat → Option Value} {d : Option Tmp} {a : Act} (h : ∀ v, K (setE E k v) (a.put d v)) : nextM (.any p) k K E d a := h
end
end Go.Proofs.YthfciekhmbfmfaaGreatDoor

/- Regions that draw their order, a tail of which runs in one order behind all else: 'out = append(out, f(x))'. No program is named here. -/
namespace Go.Proofs.YthfciekhmbfmfaaGreatDoor
open Go Go.RowKit

section
variable {P : Program} {ops : Array Oper} {md : Region.Mode} {C : World → Prop} {ys : Nat → Yld}

def wpAnyT (P : Program) (md : Region.Mode) (ops : Array Oper) (C : World → Prop) (ys : Nat → Yld) (m : Nat) (L : Array Bool → Act → World → Prop) : Nat → Array Bool → (Nat → Option Value) → Act → Prop
  | 0, listed, E, a => (∀ k, k ∈ Region.ready md ops listed → m ≤ k) ∧ ∀ w, C w → (∀ i, Known ys E i w) → L listed a w
  | f + 1, listed, E, a => Region.ready md ops listed ≠ [] ∧ ∀ i ∈ Region.ready md ops listed, i < m ∧ mOp P md ops C ys i (wpAnyT P md ops C ys m L f (listed.setIfInBounds i true)) E a

def noDefer (ops : Array Oper) : Bool := ops.all fun o => match o.op with | .defer _ => false | _ => true
theorem noDefer_spec (h : noDefer ops = true) {j : Nat} {o : Oper} (ho : ops[j]? = some o) (c : Call) : o.op ≠ .defer c := fun e => by
  have := Array.all_eq_true'.1 h o (Array.mem_of_getElem? ho)
  rw [e] at this
  cases this

theorem wpAnyIn_of_T {F : Fence} {n m g : Nat} {L : Array Bool → Act → World → Prop} {Q' : Exit → Act → World → Prop} (hf : ∀ f, F.fn f) (hd : F.depth = none) (hcall : ∀ (k : Nat) (f : Nat) args w R, Calls P f args w R → CallsIn F k P f args w R) (hdf : noDefer ops = true)
    (hCx : ∀ w w', C w → Ext w w' → C w') (hys : ∀ i, (ys i).stable) (hL : ∀ listed a w, C w → L listed a w → wpAnyIn F n P md ops Q' g listed a w) :
    ∀ (fuel : Nat) (listed : Array Bool) (E : Nat → Option Value) (a : Act) (w : World), C w → (∀ i, Known ys E i w) → wpAnyT P md ops C ys m L fuel listed E a → wpAnyIn F n P md ops Q' (fuel + g) listed a w := by
  intro fuel
  induction fuel with
  | zero => intro listed E a w hC hE h; rw [Nat.zero_add]; exact hL _ _ _ hC (h.2 w hC hE)
  | succ fuel ih =>
    intro listed E a w hC hE h
    rw [show fuel + 1 + g = (fuel + g) + 1 by omega]
    refine ⟨fun h0 => absurd h0 h.1, fun i hi => ?_⟩
    have h1 := (h.2 i hi).2
    have hgo : ∀ (o : Oper) (v : Value) (w' : World), Ext w w' → (ys i).says v w' → nextM (ys i) i (wpAnyT P md ops C ys m L fuel (listed.setIfInBounds i true)) E o.dst a → wpAnyIn F n P md ops Q' (fuel + g) (listed.setIfInBounds i true) (a.put o.dst v) w' := by
      intro o v w' he hs hn
      unfold nextM at hn
      cases hy : ys i with
      | det u =>
        rw [hy] at hs hn
        obtain rfl : v = u := hs
        exact ih _ _ _ _ (hCx _ _ hC he) (Known.ext hys he hE) hn
      | any p =>
        have hs' := hs
        rw [hy] at hn
        exact ih _ _ _ _ (hCx _ _ hC he) (Known.set (Known.ext hys he hE) hs') (hn v)
    unfold mOp at h1
    unfold wpOpIn
    split
    · rename_i ho; simp only [ho] at h1; exact ih _ _ _ _ hC hE h1
    · rename_i o ho
      simp only [ho] at h1
      split
      · rename_i hw
        simp only [hw, if_true] at h1
        obtain ⟨hy, hn⟩ := h1
        have h3 := hy w hC (fun e _ _ => hE e.on)
        refine ⟨fun f _ => hf f, ?_⟩
        rw [Oper.semAt_plain F _ _ (fun c => noDefer_spec hdf ho c)]
        generalize (execOp a.eval o).run P w = r at *
        cases r with
        | ok x w' =>
          cases x <;> simp only [monoUpon] at h3 <;> simp only [Oper.uponIn]
          case value u => exact hgo o u w' h3.1 h3.2 hn
          case skip => exact hgo o undef w' h3.1 h3.2 hn
          case enter f args =>
            obtain ⟨he, hc⟩ := h3
            refine ⟨fun h => (by rw [hd] at h; cases h), (hcall _ _ _ _ _ hc).mono ?_⟩
            rintro e w'' ⟨v, rfl, he', hs⟩
            exact hgo o v w'' (he.trans he') hs hn
        | halt x w' => simp only [monoUpon] at h3
      · rename_i hw
        simp only [hw] at h1
        exact ⟨fun f _ => hf f, ih _ _ _ _ hC hE h1⟩

theorem wpAnyT_first {m : Nat} {L : Array Bool → Act → World → Prop} {i : Nat} {oi : Oper} (hs : Region.sinkB md ops m = true) (hc : Region.chainB md ops m = true) (hn : m < ops.size) (hin : i < m) (hi : ops[i]? = some oi) (hsel : ∀ (j : Nat) (o : Oper) cs b, ops[j]? = some o → o.op ≠ .select cs b) :
    ∀ (fuel : Nat) (listed : Array Bool) (E : Nat → Option Value) (a : Act), HeadInv md ops m listed →
      (∀ j oj, ops[j]? = some oj → j ≠ i → listed.getD j true = false → (∀ e ∈ oj.after, Region.binds md e = true → e.on ≠ i) → oi.apart ops oj = true) →
      i ∈ Region.ready md ops listed → mOp P md ops C ys i (wpAnyT P md ops C ys m L fuel (listed.setIfInBounds i true)) E a → wpAnyT P md ops C ys m L (fuel + 1) listed E a := by
  intro fuel
  induction fuel with
  | zero =>
    intro listed E a inv _ hr H
    have hun := (mem_ready.1 hr).1
    refine ⟨fun h => (by rw [h] at hr; cases hr), fun j hj => ?_⟩
    have hjn : j < m := by
      rcases Nat.lt_or_ge j m with h | h
      · exact h
      · exact absurd hj (tail_waits hs hc hn inv _ i rfl hin hun j h)
    refine ⟨hjn, ?_⟩
    by_cases hji : j = i
    · subst hji; exact H
    · exfalso
      have hrj := ready_mono hj hji
      have hall : ∀ k, k ∈ Region.ready md ops (listed.setIfInBounds i true) → m ≤ k := by
        unfold mOp at H
        simp only [hi] at H
        split at H
        · have := H.2
          unfold nextM at this
          split at this
          · exact this.1
          · exact (this undef).1
        · exact H.1
      have := hall j hrj
      omega
  | succ fuel ih =>
    intro listed E a inv hfree hr H
    have hun := (mem_ready.1 hr).1
    refine ⟨fun h => (by rw [h] at hr; cases hr), fun j hj => ?_⟩
    have hjn : j < m := by
      rcases Nat.lt_or_ge j m with h | h
      · exact h
      · exact absurd hj (tail_waits hs hc hn inv _ i rfl hin hun j h)
    refine ⟨hjn, ?_⟩
    by_cases hji : j = i
    · subst hji; exact H
    · have invj := inv.set hj hjn
      obtain ⟨hjun, oj, hoj, hall⟩ := mem_ready.1 hj
      have hnot : ∀ e ∈ oj.after, Region.binds md e = true → e.on ≠ i := fun e he hb heq => by
        have h1 := hall e he hb
        have h0 := (mem_ready.1 hr).1
        rw [heq] at h1
        rcases Nat.lt_or_ge i listed.size with h' | h'
        · simp [h'] at h0 h1; rw [h0] at h1; cases h1
        · simp [Array.getElem?_eq_none h'] at h1
      have hnot' : ∀ e ∈ oi.after, Region.binds md e = true → e.on ≠ j := fun e he hb heq => by
        obtain ⟨_, oi', hoi', hall'⟩ := mem_ready.1 hr
        rw [hi] at hoi'
        cases hoi'
        have h1 := hall' e he hb
        rw [heq] at h1
        rcases Nat.lt_or_ge j listed.size with h' | h'
        · simp [h'] at hjun h1; rw [hjun] at h1; cases h1
        · simp [Array.getElem?_eq_none h'] at h1
      have hap := hfree j oj hoj hji hjun hnot
      obtain ⟨h1, h2, h3⟩ := Oper.apart_spec hap
      have hfree' : ∀ k ok, ops[k]? = some ok → k ≠ i → (listed.setIfInBounds j true).getD k true = false →
          (∀ e ∈ ok.after, Region.binds md e = true → e.on ≠ i) → oi.apart ops ok = true := fun k ok hk hki hun hno => by
        refine hfree k ok hk hki ?_ hno
        by_cases hjk : j = k
        · subst hjk; exact hjun
        · rw [getD_set_ne true hjk] at hun; exact hun
      have hri := ready_mono hr (Ne.symm hji)
      -- what i's own walk says of j, whatever i has yielded
      unfold mOp at H
      simp only [hi] at H
      -- j is run ahead of i: E', d: what i would have added
      have key : ∀ (Ei : (Nat → Option Value) → Nat → Option Value) (x : Value), (∀ (E : Nat → Option Value) n, n ≠ i → Ei E n = E n) → (∀ (E : Nat → Option Value) u, Ei (setE E j u) = setE (Ei E) j u) →
          wpAnyT P md ops C ys m L (fuel + 1) (listed.setIfInBounds i true) (Ei E) (a.put oi.dst x) →
          (if Region.wanted oj (yielded ops a.tmps) = true then yieldsM P md C ys E j oj a ∧ nextM (ys j) j (fun E' a' => wpAnyT P md ops C ys m L fuel ((listed.setIfInBounds j true).setIfInBounds i true) (Ei E') (a'.put oi.dst x)) E oj.dst a
           else wpAnyT P md ops C ys m L fuel ((listed.setIfInBounds j true).setIfInBounds i true) (Ei E) ((a.put oj.dst undef).put oi.dst x)) := by
        intro Ei x hEi hEs hx
        have hj2 := (hx.2 j (ready_mono hj hji)).2
        unfold mOp at hj2
        simp only [hoj] at hj2
        rw [wanted_put oj a oi.dst x h1] at hj2
        rw [Array.setIfInBounds_comm _ _ (Ne.symm hji)] at hj2
        split at hj2
        · rename_i hw
          rw [if_pos hw]
          refine ⟨yieldsM_put (execOp_put oj (fun cs b => hsel j oj cs b hoj) a oi.dst x h1).symm (fun e he hb => (hEi E _ (hnot e he hb)).symm) hj2.1, ?_⟩
          have := hj2.2
          unfold nextM at this ⊢
          cases hy : ys j with
          | det v => simp only [hy] at this ⊢; rw [← Act.put_comm a x v h2]; exact this
          | any p => simp only [hy] at this ⊢; intro u; rw [hEs, ← Act.put_comm a x u h2]; exact this u
        · rename_i hw
          rw [if_neg hw]
          rw [← Act.put_comm a x undef h2]
          exact hj2
      unfold mOp
      simp only [hoj]
      by_cases hwi : Region.wanted oi (yielded ops a.tmps) = true
      · simp only [hwi, if_true] at H
        obtain ⟨hyi, hni⟩ := H
        cases hy : ys i with
        | det x =>
          unfold nextM at hni
          simp only [hy] at hni
          have hk := key id x (fun _ _ _ => rfl) (fun _ _ => rfl) hni
          by_cases hwj : Region.wanted oj (yielded ops a.tmps) = true
          · rw [if_pos hwj] at hk ⊢
            refine ⟨hk.1, ?_⟩
            have hn := hk.2
            unfold nextM at hn ⊢
            have fin : ∀ (E' : Nat → Option Value) (u : Value), (∀ n, n ≠ j → E' n = E n) → wpAnyT P md ops C ys m L fuel ((listed.setIfInBounds j true).setIfInBounds i true) E' ((a.put oj.dst u).put oi.dst x) →
                wpAnyT P md ops C ys m L (fuel + 1) (listed.setIfInBounds j true) E' (a.put oj.dst u) := fun E' u hE' h => by
              refine ih (listed.setIfInBounds j true) E' _ invj hfree' hri ?_
              unfold mOp
              simp only [hi]
              rw [wanted_put oi a oj.dst u h3, if_pos hwi]
              refine ⟨yieldsM_put (execOp_put oi (fun cs b => hsel i oi cs b hi) a oj.dst u h3) (fun e he hb => hE' _ (hnot' e he hb)) hyi, ?_⟩
              unfold nextM
              simp only [hy]
              exact h
            cases hyj : ys j with
            | det v => simp only [hyj] at hn ⊢; exact fin _ v (fun _ _ => rfl) hn
            | any p => simp only [hyj] at hn ⊢; exact fun u => fin _ u (fun n hn => by simp [setE, hn]) (hn u)
          · rw [if_neg hwj] at hk ⊢
            refine ih (listed.setIfInBounds j true) E _ invj hfree' hri ?_
            unfold mOp
            simp only [hi]
            rw [wanted_put oi a oj.dst undef h3, if_pos hwi]
            refine ⟨yieldsM_put (execOp_put oi (fun cs b => hsel i oi cs b hi) a oj.dst undef h3) (fun _ _ _ => rfl) hyi, ?_⟩
            unfold nextM
            simp only [hy]
            exact hk
        | any p =>
          unfold nextM at hni
          simp only [hy] at hni
          have hk := fun x => key (fun E => setE E i x) x (fun E n hn => by simp [setE, hn]) (fun E u => setE_comm hji u x) (hni x)
          by_cases hwj : Region.wanted oj (yielded ops a.tmps) = true
          · simp only [hwj, if_true] at hk ⊢
            refine ⟨(hk undef).1, ?_⟩
            have hn := fun x => (hk x).2
            unfold nextM at hn ⊢
            have fin : ∀ (E' : Nat → Option Value) (u : Value), (∀ n, n ≠ j → E' n = E n) → (∀ x, wpAnyT P md ops C ys m L fuel ((listed.setIfInBounds j true).setIfInBounds i true) (setE E' i x) ((a.put oj.dst u).put oi.dst x)) →
                wpAnyT P md ops C ys m L (fuel + 1) (listed.setIfInBounds j true) E' (a.put oj.dst u) := fun E' u hE' h => by
              refine ih (listed.setIfInBounds j true) E' _ invj hfree' hri ?_
              unfold mOp
              simp only [hi]
              rw [wanted_put oi a oj.dst u h3, if_pos hwi]
              refine ⟨yieldsM_put (execOp_put oi (fun cs b => hsel i oi cs b hi) a oj.dst u h3) (fun e he hb => hE' _ (hnot' e he hb)) hyi, ?_⟩
              unfold nextM
              simp only [hy]
              exact h
            cases hyj : ys j with
            | det v => simp only [hyj] at hn ⊢; exact fin _ v (fun _ _ => rfl) hn
            | any q => simp only [hyj] at hn ⊢; exact fun u => fin _ u (fun n hn => by simp [setE, hn]) (fun x => hn x u)
          · simp only [hwj] at hk ⊢
            refine ih (listed.setIfInBounds j true) E _ invj hfree' hri ?_
            unfold mOp
            simp only [hi]
            rw [wanted_put oi a oj.dst undef h3, if_pos hwi]
            refine ⟨yieldsM_put (execOp_put oi (fun cs b => hsel i oi cs b hi) a oj.dst undef h3) (fun _ _ _ => rfl) hyi, ?_⟩
            unfold nextM
            simp only [hy]
            exact hk
      · simp only [hwi] at H
        have hk := key id undef (fun _ _ _ => rfl) (fun _ _ => rfl) H
        by_cases hwj : Region.wanted oj (yielded ops a.tmps) = true
        · rw [if_pos hwj] at hk ⊢
          refine ⟨hk.1, ?_⟩
          have hn := hk.2
          unfold nextM at hn ⊢
          have fin : ∀ (E' : Nat → Option Value) (u : Value), wpAnyT P md ops C ys m L fuel ((listed.setIfInBounds j true).setIfInBounds i true) E' ((a.put oj.dst u).put oi.dst undef) →
              wpAnyT P md ops C ys m L (fuel + 1) (listed.setIfInBounds j true) E' (a.put oj.dst u) := fun E' u h => by
            refine ih (listed.setIfInBounds j true) E' _ invj hfree' hri ?_
            unfold mOp
            simp only [hi]
            rw [wanted_put oi a oj.dst u h3, if_neg hwi]
            exact h
          cases hyj : ys j with
          | det v => simp only [hyj] at hn ⊢; exact fin _ v hn
          | any q => simp only [hyj] at hn ⊢; exact fun u => fin _ u (hn u)
        · rw [if_neg hwj] at hk ⊢
          refine ih (listed.setIfInBounds j true) E _ invj hfree' hri ?_
          unfold mOp
          simp only [hi]
          rw [wanted_put oi a oj.dst undef h3, if_neg hwi]
          exact hk


theorem wpAnyT_lex {m g : Nat} {Lq : Act → World → Prop} (hsel : Region.noSelect ops = true) (hs : Region.sinkB md ops m = true) (hc : Region.chainB md ops m = true) (hn : m < ops.size) :
    ∀ (l : List Oper) (k : Nat) (listed : Array Bool) (E : Nat → Option Value) (a : Act), (∀ j, j < l.length → l[j]? = ops[k + j]?) → k + l.length = m → HeadInv md ops m listed →
    Region.lexHead md ops g l.length k listed = true → wpM P md ops C ys Lq l k E a →
    wpAnyT P md ops C ys m (fun listed' a' w' => Region.seqB md ops g m listed' = true ∧ Lq a' w') l.length listed E a
  | [], k, listed, E, a, _, hk, _, hB, h => by
    have : k = m := by simpa using hk
    subst this
    have hB' : Region.seqB md ops g k listed = true := by simpa [Region.lexHead] using hB
    exact ⟨seqB_ready hB', fun w hC hE => ⟨hB', h w hC hE⟩⟩
  | o :: l, k, listed, E, a, hl, hk, inv, hB, h => by
    have h0 : ops[k]? = some o := by simpa using (hl 0 (by simp)).symm
    simp only [List.length_cons, Region.lexHead, Bool.and_eq_true] at hB
    obtain ⟨⟨hr, hf⟩, hB'⟩ := hB
    have hkn : k < m := by simp only [List.length_cons] at hk; omega
    have hr' : k ∈ Region.ready md ops listed := by simpa using hr
    have hst : mOp P md ops C ys k (wpM P md ops C ys Lq l (k + 1)) E a := by unfold mOp; simp only [h0]; exact h
    exact wpAnyT_first hs hc hn hkn h0 (Region.noSelect_spec hsel) l.length listed E a inv (Region.free_spec h0 hf) hr'
      (mOp_mono (fun E a h => wpAnyT_lex hsel hs hc hn l (k + 1) _ E a (fun j hj => by have := hl (j + 1) (by simp; omega); simpa [Nat.add_assoc, Nat.add_comm 1 j] using this) (by simp only [List.length_cons] at hk; omega) (inv.set hr' hkn) hB' h) hst)

theorem wpAnyIn_of_seq {F : Fence} {n : Nat} {Q' : Exit → Act → World → Prop} : ∀ (l : List Oper) (k : Nat) (listed : Array Bool) (a : Act) (w : World), (∀ j, l[j]? = ops[k + j]?) →
    Region.seqB md ops l.length k listed = true → wpListIn F n P ops Q' l a w → wpAnyIn F n P md ops Q' l.length listed a w
  | [], _, _, _, _, _, hB, h => ⟨by simpa [Region.seqB] using hB, h⟩
  | o :: l, k, listed, a, w, hl, hB, h => by
    have h0 : ops[k]? = some o := by simpa using (hl 0).symm
    simp only [List.length_cons, Region.seqB, Bool.and_eq_true, decide_eq_true_eq] at hB
    obtain ⟨hr, hB'⟩ := hB
    refine ⟨fun h1 => (by rw [hr] at h1; cases h1), fun i hi => ?_⟩
    rw [hr] at hi
    obtain rfl : i = k := by simpa using hi
    have hw : wpOpIn F n P ops Q' i (wpListIn F n P ops Q' l) a w := by unfold wpOpIn; simp only [h0]; exact h
    exact wpOpIn_mono (fun a' w' h' => wpAnyIn_of_seq l (i + 1) _ a' w' (fun j => by have := hl (j + 1); simpa [Nat.add_assoc, Nat.add_comm 1 j] using this) hB' h') hw

/-- The first m operations in every order, the rest behind them. -/
theorem wpIn_region_mono_tail {F : Fence} {n : Nat} (m : Nat) {id : Nat} {Q : Exit → Act → World → Prop} {a : Act} {w : World} {l : List Oper} (yl : List Yld) (hf : ∀ f, F.fn f) (hd : F.depth = none) (hcall : ∀ (k : Nat) (f : Nat) args w R, Calls P f args w R → CallsIn F k P f args w R)
    (hm : P.follows .mixedOrders = true) (hB : (noDefer l.toArray && Region.lexTailB .any l.toArray m) = true) (hys : ∀ y, y ∈ yl → y.stable)
    (h : wpM P .any l.toArray (Ext w) (fun i => yl.getD i (.any fun _ _ => True)) (fun a' w' => wpListIn F n P l.toArray Q (l.drop m) a' w') (l.take m) 0 (fun _ => none) a) : (Code.region id l.toArray true).wpIn F n P Q a w := by
  simp only [Region.lexTailB, Bool.and_eq_true, decide_eq_true_eq] at hB
  obtain ⟨hdf, ⟨⟨⟨hsel, hn⟩, hs⟩, hc⟩, hlex⟩ := hB
  have hn' : m < l.length := by simpa using hn
  have htl : (l.take m).length = m := by simp; omega
  have hdl : (l.drop m).length = l.toArray.size - m := by simp
  have inv0 : HeadInv .any l.toArray m (Array.replicate l.toArray.size false) :=
    ⟨by simp, fun j oj _ hl => (by rw [getD_replicate_false] at hl; cases hl), fun t _ ht => getD_in (by simpa using ht) (getD_replicate_false _ _)⟩
  have H := wpAnyT_lex (md := .any) (g := l.toArray.size - m) hsel hs hc hn (l.take m) 0 _ _ a (fun j hj => by
    have hj' : j < m := by rw [htl] at hj; exact hj
    simp [hj']) (by simpa using htl) inv0 (by rw [htl]; exact hlex) h
  refine wpIn_region_any hm ?_
  have hyl : ∀ i, (yl.getD i (.any fun _ _ => True)).stable := by
    intro i
    by_cases hi : i < yl.length
    · simp only [List.getD, List.getElem?_eq_getElem hi, Option.getD_some]
      exact hys _ (List.getElem_mem hi)
    · simp only [List.getD, List.getElem?_eq_none (Nat.le_of_not_lt hi), Option.getD_none]
      exact fun _ _ _ _ _ => trivial
  have := wpAnyIn_of_T (n := n) (Q' := Q) (g := l.toArray.size - m) hf hd hcall hdf (fun _ _ h1 h2 => Ext.trans h1 h2) hyl (fun listed a' w' _ hL => by
    have := wpAnyIn_of_seq (md := .any) (Q' := Q) (F := F) (n := n) (l.drop m) m listed a' w' (fun j => by simp [List.getElem?_drop]) (by rw [hdl]; exact hL.1) hL.2
    rwa [hdl] at this) _ _ (fun _ => none) _ { w with drawn := w.drawn + 1 } (Below.refl _ _ |>.drew) (fun i v hv => by cases hv) H
  rw [htl, show m + (l.toArray.size - m) = l.toArray.size by omega] at this
  exact this
end
end Go.Proofs.YthfciekhmbfmfaaGreatDoor

/- Regions that draw their order, one operation of which is a call that turns memory: what it turns is told by a phase. No program is named here. -/
namespace Go.Proofs.YthfciekhmbfmfaaGreatDoor
open Go Go.RowKit

def uponP (P : Program) (q : Value → World → Prop) : Result Next → Prop
  | .ok (.value u) w' => q u w'
  | .ok .skip w' => q undef w'
  | .ok (.enter f args) w' => Calls P f args w' (fun e w'' => ∃ v, e = .returned v ∧ q v w'')
  | _ => False

section
variable {P : Program} {ops : Array Oper} {md : Region.Mode} {Rl : World → World → Prop} {C : Bool → World → Prop} {sp : Nat} {ys : Nat → Yld}

def Yld.stableP (Rl : World → World → Prop) : Yld → Prop
  | .det _ => True
  | .any p => ∀ u w w', Rl w w' → p u w → p u w'

/-- Operation k: the special one takes the world from the first phase to the second; the others leave the phase. -/
def yieldsP (P : Program) (md : Region.Mode) (Rl : World → World → Prop) (C : Bool → World → Prop) (sp : Nat) (ys : Nat → Yld) (E : Nat → Option Value) (k : Nat) (o : Oper) (a : Act) : Prop :=
  if k = sp then ∀ w, C false w → deps md ys o E w → uponP P (fun u w' => Rl w w' ∧ C true w' ∧ (ys k).says u w') ((execOp a.eval o).run P w)
  else ∀ b w, C b w → deps md ys o E w → uponP P (fun u w' => Rl w w' ∧ C b w' ∧ (ys k).says u w') ((execOp a.eval o).run P w)

def pOp (P : Program) (md : Region.Mode) (ops : Array Oper) (Rl : World → World → Prop) (C : Bool → World → Prop) (sp : Nat) (ys : Nat → Yld) (k : Nat) (K : (Nat → Option Value) → Act → Prop) (E : Nat → Option Value) (a : Act) : Prop :=
  match ops[k]? with
  | none => K E a
  | some o => if Region.wanted o (yielded ops a.tmps) then yieldsP P md Rl C sp ys E k o a ∧ nextM (ys k) k K E o.dst a else K E (a.put o.dst undef)

def wpP (P : Program) (md : Region.Mode) (ops : Array Oper) (Rl : World → World → Prop) (C : Bool → World → Prop) (sp : Nat) (ys : Nat → Yld) (Q : Act → World → Prop) : List Oper → Nat → (Nat → Option Value) → Act → Prop
  | [], _, E, a => ∀ w, C true w → (∀ i, Known ys E i w) → Q a w
  | o :: rest, k, E, a => if Region.wanted o (yielded ops a.tmps) then yieldsP P md Rl C sp ys E k o a ∧ nextM (ys k) k (wpP P md ops Rl C sp ys Q rest (k + 1)) E o.dst a else wpP P md ops Rl C sp ys Q rest (k + 1) E (a.put o.dst undef)

def wpAnyP (P : Program) (md : Region.Mode) (ops : Array Oper) (Rl : World → World → Prop) (C : Bool → World → Prop) (sp : Nat) (ys : Nat → Yld) (m : Nat) (L : Array Bool → Act → World → Prop) : Nat → Array Bool → (Nat → Option Value) → Act → Prop
  | 0, listed, E, a => (∀ k, k ∈ Region.ready md ops listed → m ≤ k) ∧ listed.getD sp false = true ∧ ∀ w, C true w → (∀ i, Known ys E i w) → L listed a w
  | f + 1, listed, E, a => Region.ready md ops listed ≠ [] ∧ ∀ i ∈ Region.ready md ops listed, i < m ∧ pOp P md ops Rl C sp ys i (wpAnyP P md ops Rl C sp ys m L f (listed.setIfInBounds i true)) E a

theorem pOp_mono {k : Nat} {E : Nat → Option Value} {a : Act} {K K' : (Nat → Option Value) → Act → Prop} (h : ∀ E a, K E a → K' E a) (hh : pOp P md ops Rl C sp ys k K E a) : pOp P md ops Rl C sp ys k K' E a := by
  unfold pOp at *
  split
  · exact h _ _ (by simpa [*] using hh)
  · rename_i o ho
    simp only [ho] at hh
    split
    · rename_i hw; simp only [hw, if_true] at hh; exact ⟨hh.1, nextM_mono h hh.2⟩
    · rename_i hw; simp only [hw] at hh; exact h _ _ hh

theorem Known.extP {E : Nat → Option Value} {w w' : World} (hy : ∀ i, (ys i).stableP Rl) (he : Rl w w') (h : ∀ i, Known ys E i w) : ∀ i, Known ys E i w' := fun i v hv => by
  have h1 := h i v hv
  have h2 := hy i
  cases hyi : ys i with
  | det x => rw [hyi] at h1; exact h1
  | any p => rw [hyi] at h1 h2; exact h2 _ _ _ he h1

theorem yieldsP_put {k : Nat} {o : Oper} {E E' : Nat → Option Value} {a a' : Act} (he : execOp a'.eval o = execOp a.eval o) (hE : ∀ e, e ∈ o.after → Region.binds md e = true → E' e.on = E e.on)
    (h : yieldsP P md Rl C sp ys E k o a) : yieldsP P md Rl C sp ys E' k o a' := by
  unfold yieldsP at *
  rw [he]
  have hd' : ∀ w, deps md ys o E' w → deps md ys o E w := fun w hd e h1 h2 v hv => hd e h1 h2 v (by rw [hE e h1 h2]; exact hv)
  split
  · rename_i hk; rw [if_pos hk] at h; exact fun w hC hd => h w hC (hd' w hd)
  · rename_i hk; rw [if_neg hk] at h; exact fun b w hC hd => h b w hC (hd' w hd)

theorem wpAnyIn_of_P {F : Fence} {n m g : Nat} {L : Array Bool → Act → World → Prop} {Q' : Exit → Act → World → Prop} (hf : ∀ f, F.fn f) (hd : F.depth = none) (hcall : ∀ (k : Nat) (f : Nat) args w R, Calls P f args w R → CallsIn F k P f args w R) (hdf : noDefer ops = true)
    (hsg : ∀ o, ops[sp]? = some o → o.guard = none) (hso : sp < ops.size) (hys : ∀ i, (ys i).stableP Rl) (hL : ∀ listed a w, C true w → L listed a w → wpAnyIn F n P md ops Q' g listed a w) :
    ∀ (fuel : Nat) (listed : Array Bool) (E : Nat → Option Value) (a : Act) (w : World), C (listed.getD sp false) w → (∀ i, Known ys E i w) → wpAnyP P md ops Rl C sp ys m L fuel listed E a → wpAnyIn F n P md ops Q' (fuel + g) listed a w := by
  intro fuel
  induction fuel with
  | zero =>
    intro listed E a w hC hE h
    rw [Nat.zero_add]
    rw [h.2.1] at hC
    exact hL _ _ _ hC (h.2.2 w hC hE)
  | succ fuel ih =>
    intro listed E a w hC hE h
    rw [show fuel + 1 + g = (fuel + g) + 1 by omega]
    refine ⟨fun h0 => absurd h0 h.1, fun i hi => ?_⟩
    have h1 := (h.2 i hi).2
    have hun := (mem_ready.1 hi).1
    have hgo : ∀ (o : Oper) (v : Value) (w' : World), Rl w w' → C ((listed.setIfInBounds i true).getD sp false) w' → (ys i).says v w' → nextM (ys i) i (wpAnyP P md ops Rl C sp ys m L fuel (listed.setIfInBounds i true)) E o.dst a → wpAnyIn F n P md ops Q' (fuel + g) (listed.setIfInBounds i true) (a.put o.dst v) w' := by
      intro o v w' he hC' hs hn
      unfold nextM at hn
      cases hy : ys i with
      | det u =>
        rw [hy] at hs hn
        obtain rfl : v = u := hs
        exact ih _ _ _ _ hC' (Known.extP hys he hE) hn
      | any p =>
        have hs' := hs
        rw [hy] at hn
        exact ih _ _ _ _ hC' (Known.set (Known.extP hys he hE) hs') (hn v)
    have hup : ∀ (o : Oper) (b : Bool), uponP P (fun u w' => Rl w w' ∧ C b w' ∧ (ys i).says u w') ((execOp a.eval o).run P w) → b = (listed.setIfInBounds i true).getD sp false → (∀ c, o.op ≠ .defer c) →
        nextM (ys i) i (wpAnyP P md ops Rl C sp ys m L fuel (listed.setIfInBounds i true)) E o.dst a → o.wpIn F n P a w (wpAnyIn F n P md ops Q' (fuel + g) (listed.setIfInBounds i true)) Q' := by
      intro o b h3 hb hnd hn
      subst hb
      refine ⟨fun f _ => hf f, ?_⟩
      rw [Oper.semAt_plain F _ _ hnd]
      generalize (execOp a.eval o).run P w = r at *
      cases r with
      | ok x w' =>
        cases x <;> simp only [uponP] at h3 <;> simp only [Oper.uponIn]
        case value u => exact hgo o u w' h3.1 h3.2.1 h3.2.2 hn
        case skip => exact hgo o undef w' h3.1 h3.2.1 h3.2.2 hn
        case enter f args =>
          refine ⟨fun h => (by rw [hd] at h; cases h), (hcall _ _ _ _ _ h3).mono ?_⟩
          rintro e w'' ⟨v, rfl, he', hC', hs⟩
          exact hgo o v w'' he' hC' hs hn
      | halt x w' => simp only [uponP] at h3
    have hset : i ≠ sp → (listed.setIfInBounds i true).getD sp false = listed.getD sp false := fun hne => getD_set_ne false hne
    unfold pOp at h1
    unfold wpOpIn
    split
    · rename_i ho
      obtain ⟨_, oi, hoi, _⟩ := mem_ready.1 hi
      rw [ho] at hoi
      cases hoi
    · rename_i o ho
      simp only [ho] at h1
      split
      · rename_i hw
        simp only [hw, if_true] at h1
        obtain ⟨hy, hn⟩ := h1
        unfold yieldsP at hy
        by_cases hk : i = sp
        · subst hk
          rw [if_pos rfl] at hy
          rw [getD_both hun] at hC
          refine hup o true (hy w hC (fun e _ _ => hE e.on)) ?_ (fun c => noDefer_spec hdf ho c) hn
          rcases Nat.lt_or_ge i listed.size with h' | h'
          · simp [h']
          · simp [Array.getElem?_eq_none h'] at hun
        · rw [if_neg hk] at hy
          exact hup o _ (hy _ w hC (fun e _ _ => hE e.on)) (hset hk).symm (fun c => noDefer_spec hdf ho c) hn
      · rename_i hw
        simp only [hw] at h1
        have hk : i ≠ sp := fun e => by
          subst e
          rw [Region.wanted, hsg o ho] at hw
          exact hw rfl
        refine ⟨fun f _ => hf f, ih _ _ _ _ ?_ hE h1⟩
        rw [hset hk]
        exact hC

theorem wpAnyP_first {m : Nat} {L : Array Bool → Act → World → Prop} {i : Nat} {oi : Oper} (hs : Region.sinkB md ops m = true) (hc : Region.chainB md ops m = true) (hn : m < ops.size) (hin : i < m) (hi : ops[i]? = some oi) (hsel : ∀ (j : Nat) (o : Oper) cs b, ops[j]? = some o → o.op ≠ .select cs b) :
    ∀ (fuel : Nat) (listed : Array Bool) (E : Nat → Option Value) (a : Act), HeadInv md ops m listed →
      (∀ j oj, ops[j]? = some oj → j ≠ i → listed.getD j true = false → (∀ e ∈ oj.after, Region.binds md e = true → e.on ≠ i) → oi.apart ops oj = true) →
      i ∈ Region.ready md ops listed → pOp P md ops Rl C sp ys i (wpAnyP P md ops Rl C sp ys m L fuel (listed.setIfInBounds i true)) E a → wpAnyP P md ops Rl C sp ys m L (fuel + 1) listed E a := by
  intro fuel
  induction fuel with
  | zero =>
    intro listed E a inv _ hr H
    have hun := (mem_ready.1 hr).1
    refine ⟨fun h => (by rw [h] at hr; cases hr), fun j hj => ?_⟩
    have hjn : j < m := by
      rcases Nat.lt_or_ge j m with h | h
      · exact h
      · exact absurd hj (tail_waits hs hc hn inv _ i rfl hin hun j h)
    refine ⟨hjn, ?_⟩
    by_cases hji : j = i
    · subst hji; exact H
    · exfalso
      have hrj := ready_mono hj hji
      have hall : ∀ k, k ∈ Region.ready md ops (listed.setIfInBounds i true) → m ≤ k := by
        unfold pOp at H
        simp only [hi] at H
        split at H
        · have := H.2
          unfold nextM at this
          split at this
          · exact this.1
          · exact (this undef).1
        · exact H.1
      have := hall j hrj
      omega
  | succ fuel ih =>
    intro listed E a inv hfree hr H
    have hun := (mem_ready.1 hr).1
    refine ⟨fun h => (by rw [h] at hr; cases hr), fun j hj => ?_⟩
    have hjn : j < m := by
      rcases Nat.lt_or_ge j m with h | h
      · exact h
      · exact absurd hj (tail_waits hs hc hn inv _ i rfl hin hun j h)
    refine ⟨hjn, ?_⟩
    by_cases hji : j = i
    · subst hji; exact H
    · have invj := inv.set hj hjn
      obtain ⟨hjun, oj, hoj, hall⟩ := mem_ready.1 hj
      have hnot : ∀ e ∈ oj.after, Region.binds md e = true → e.on ≠ i := fun e he hb heq => by
        have h1 := hall e he hb
        have h0 := (mem_ready.1 hr).1
        rw [heq] at h1
        rcases Nat.lt_or_ge i listed.size with h' | h'
        · simp [h'] at h0 h1; rw [h0] at h1; cases h1
        · simp [Array.getElem?_eq_none h'] at h1
      have hnot' : ∀ e ∈ oi.after, Region.binds md e = true → e.on ≠ j := fun e he hb heq => by
        obtain ⟨_, oi', hoi', hall'⟩ := mem_ready.1 hr
        rw [hi] at hoi'
        cases hoi'
        have h1 := hall' e he hb
        rw [heq] at h1
        rcases Nat.lt_or_ge j listed.size with h' | h'
        · simp [h'] at hjun h1; rw [hjun] at h1; cases h1
        · simp [Array.getElem?_eq_none h'] at h1
      have hap := hfree j oj hoj hji hjun hnot
      obtain ⟨h1, h2, h3⟩ := Oper.apart_spec hap
      have hfree' : ∀ k ok, ops[k]? = some ok → k ≠ i → (listed.setIfInBounds j true).getD k true = false →
          (∀ e ∈ ok.after, Region.binds md e = true → e.on ≠ i) → oi.apart ops ok = true := fun k ok hk hki hun hno => by
        refine hfree k ok hk hki ?_ hno
        by_cases hjk : j = k
        · subst hjk; exact hjun
        · rw [getD_set_ne true hjk] at hun; exact hun
      have hri := ready_mono hr (Ne.symm hji)
      -- what i's own walk says of j, whatever i has yielded
      unfold pOp at H
      simp only [hi] at H
      -- j is run ahead of i: E', d: what i would have added
      have key : ∀ (Ei : (Nat → Option Value) → Nat → Option Value) (x : Value), (∀ (E : Nat → Option Value) n, n ≠ i → Ei E n = E n) → (∀ (E : Nat → Option Value) u, Ei (setE E j u) = setE (Ei E) j u) →
          wpAnyP P md ops Rl C sp ys m L (fuel + 1) (listed.setIfInBounds i true) (Ei E) (a.put oi.dst x) →
          (if Region.wanted oj (yielded ops a.tmps) = true then yieldsP P md Rl C sp ys E j oj a ∧ nextM (ys j) j (fun E' a' => wpAnyP P md ops Rl C sp ys m L fuel ((listed.setIfInBounds j true).setIfInBounds i true) (Ei E') (a'.put oi.dst x)) E oj.dst a
           else wpAnyP P md ops Rl C sp ys m L fuel ((listed.setIfInBounds j true).setIfInBounds i true) (Ei E) ((a.put oj.dst undef).put oi.dst x)) := by
        intro Ei x hEi hEs hx
        have hj2 := (hx.2 j (ready_mono hj hji)).2
        unfold pOp at hj2
        simp only [hoj] at hj2
        rw [wanted_put oj a oi.dst x h1] at hj2
        rw [Array.setIfInBounds_comm _ _ (Ne.symm hji)] at hj2
        split at hj2
        · rename_i hw
          rw [if_pos hw]
          refine ⟨yieldsP_put (execOp_put oj (fun cs b => hsel j oj cs b hoj) a oi.dst x h1).symm (fun e he hb => (hEi E _ (hnot e he hb)).symm) hj2.1, ?_⟩
          have := hj2.2
          unfold nextM at this ⊢
          cases hy : ys j with
          | det v => simp only [hy] at this ⊢; rw [← Act.put_comm a x v h2]; exact this
          | any p => simp only [hy] at this ⊢; intro u; rw [hEs, ← Act.put_comm a x u h2]; exact this u
        · rename_i hw
          rw [if_neg hw]
          rw [← Act.put_comm a x undef h2]
          exact hj2
      unfold pOp
      simp only [hoj]
      by_cases hwi : Region.wanted oi (yielded ops a.tmps) = true
      · simp only [hwi, if_true] at H
        obtain ⟨hyi, hni⟩ := H
        cases hy : ys i with
        | det x =>
          unfold nextM at hni
          simp only [hy] at hni
          have hk := key id x (fun _ _ _ => rfl) (fun _ _ => rfl) hni
          by_cases hwj : Region.wanted oj (yielded ops a.tmps) = true
          · rw [if_pos hwj] at hk ⊢
            refine ⟨hk.1, ?_⟩
            have hn := hk.2
            unfold nextM at hn ⊢
            have fin : ∀ (E' : Nat → Option Value) (u : Value), (∀ n, n ≠ j → E' n = E n) → wpAnyP P md ops Rl C sp ys m L fuel ((listed.setIfInBounds j true).setIfInBounds i true) E' ((a.put oj.dst u).put oi.dst x) →
                wpAnyP P md ops Rl C sp ys m L (fuel + 1) (listed.setIfInBounds j true) E' (a.put oj.dst u) := fun E' u hE' h => by
              refine ih (listed.setIfInBounds j true) E' _ invj hfree' hri ?_
              unfold pOp
              simp only [hi]
              rw [wanted_put oi a oj.dst u h3, if_pos hwi]
              refine ⟨yieldsP_put (execOp_put oi (fun cs b => hsel i oi cs b hi) a oj.dst u h3) (fun e he hb => hE' _ (hnot' e he hb)) hyi, ?_⟩
              unfold nextM
              simp only [hy]
              exact h
            cases hyj : ys j with
            | det v => simp only [hyj] at hn ⊢; exact fin _ v (fun _ _ => rfl) hn
            | any p => simp only [hyj] at hn ⊢; exact fun u => fin _ u (fun n hn => by simp [setE, hn]) (hn u)
          · rw [if_neg hwj] at hk ⊢
            refine ih (listed.setIfInBounds j true) E _ invj hfree' hri ?_
            unfold pOp
            simp only [hi]
            rw [wanted_put oi a oj.dst undef h3, if_pos hwi]
            refine ⟨yieldsP_put (execOp_put oi (fun cs b => hsel i oi cs b hi) a oj.dst undef h3) (fun _ _ _ => rfl) hyi, ?_⟩
            unfold nextM
            simp only [hy]
            exact hk
        | any p =>
          unfold nextM at hni
          simp only [hy] at hni
          have hk := fun x => key (fun E => setE E i x) x (fun E n hn => by simp [setE, hn]) (fun E u => setE_comm hji u x) (hni x)
          by_cases hwj : Region.wanted oj (yielded ops a.tmps) = true
          · simp only [hwj, if_true] at hk ⊢
            refine ⟨(hk undef).1, ?_⟩
            have hn := fun x => (hk x).2
            unfold nextM at hn ⊢
            have fin : ∀ (E' : Nat → Option Value) (u : Value), (∀ n, n ≠ j → E' n = E n) → (∀ x, wpAnyP P md ops Rl C sp ys m L fuel ((listed.setIfInBounds j true).setIfInBounds i true) (setE E' i x) ((a.put oj.dst u).put oi.dst x)) →
                wpAnyP P md ops Rl C sp ys m L (fuel + 1) (listed.setIfInBounds j true) E' (a.put oj.dst u) := fun E' u hE' h => by
              refine ih (listed.setIfInBounds j true) E' _ invj hfree' hri ?_
              unfold pOp
              simp only [hi]
              rw [wanted_put oi a oj.dst u h3, if_pos hwi]
              refine ⟨yieldsP_put (execOp_put oi (fun cs b => hsel i oi cs b hi) a oj.dst u h3) (fun e he hb => hE' _ (hnot' e he hb)) hyi, ?_⟩
              unfold nextM
              simp only [hy]
              exact h
            cases hyj : ys j with
            | det v => simp only [hyj] at hn ⊢; exact fin _ v (fun _ _ => rfl) hn
            | any q => simp only [hyj] at hn ⊢; exact fun u => fin _ u (fun n hn => by simp [setE, hn]) (fun x => hn x u)
          · simp only [hwj] at hk ⊢
            refine ih (listed.setIfInBounds j true) E _ invj hfree' hri ?_
            unfold pOp
            simp only [hi]
            rw [wanted_put oi a oj.dst undef h3, if_pos hwi]
            refine ⟨yieldsP_put (execOp_put oi (fun cs b => hsel i oi cs b hi) a oj.dst undef h3) (fun _ _ _ => rfl) hyi, ?_⟩
            unfold nextM
            simp only [hy]
            exact hk
      · simp only [hwi] at H
        have hk := key id undef (fun _ _ _ => rfl) (fun _ _ => rfl) H
        by_cases hwj : Region.wanted oj (yielded ops a.tmps) = true
        · rw [if_pos hwj] at hk ⊢
          refine ⟨hk.1, ?_⟩
          have hn := hk.2
          unfold nextM at hn ⊢
          have fin : ∀ (E' : Nat → Option Value) (u : Value), wpAnyP P md ops Rl C sp ys m L fuel ((listed.setIfInBounds j true).setIfInBounds i true) E' ((a.put oj.dst u).put oi.dst undef) →
              wpAnyP P md ops Rl C sp ys m L (fuel + 1) (listed.setIfInBounds j true) E' (a.put oj.dst u) := fun E' u h => by
            refine ih (listed.setIfInBounds j true) E' _ invj hfree' hri ?_
            unfold pOp
            simp only [hi]
            rw [wanted_put oi a oj.dst u h3, if_neg hwi]
            exact h
          cases hyj : ys j with
          | det v => simp only [hyj] at hn ⊢; exact fin _ v hn
          | any q => simp only [hyj] at hn ⊢; exact fun u => fin _ u (hn u)
        · rw [if_neg hwj] at hk ⊢
          refine ih (listed.setIfInBounds j true) E _ invj hfree' hri ?_
          unfold pOp
          simp only [hi]
          rw [wanted_put oi a oj.dst undef h3, if_neg hwi]
          exact hk


theorem wpAnyP_lex {m g : Nat} {Lq : Act → World → Prop} (hsel : Region.noSelect ops = true) (hs : Region.sinkB md ops m = true) (hc : Region.chainB md ops m = true) (hn : m < ops.size) :
    ∀ (l : List Oper) (k : Nat) (listed : Array Bool) (E : Nat → Option Value) (a : Act), (∀ j, j < l.length → l[j]? = ops[k + j]?) → k + l.length = m → sp < m → (sp < k → listed.getD sp false = true) → HeadInv md ops m listed →
    Region.lexHead md ops g l.length k listed = true → wpP P md ops Rl C sp ys Lq l k E a →
    wpAnyP P md ops Rl C sp ys m (fun listed' a' w' => Region.seqB md ops g m listed' = true ∧ Lq a' w') l.length listed E a
  | [], k, listed, E, a, _, hk, hsm, hsk, _, hB, h => by
    have : k = m := by simpa using hk
    subst this
    have hB' : Region.seqB md ops g k listed = true := by simpa [Region.lexHead] using hB
    exact ⟨seqB_ready hB', hsk hsm, fun w hC hE => ⟨hB', h w hC hE⟩⟩
  | o :: l, k, listed, E, a, hl, hk, hsm, hsk, inv, hB, h => by
    have h0 : ops[k]? = some o := by simpa using (hl 0 (by simp)).symm
    simp only [List.length_cons, Region.lexHead, Bool.and_eq_true] at hB
    obtain ⟨⟨hr, hf⟩, hB'⟩ := hB
    have hkn : k < m := by simp only [List.length_cons] at hk; omega
    have hr' : k ∈ Region.ready md ops listed := by simpa using hr
    have hst : pOp P md ops Rl C sp ys k (wpP P md ops Rl C sp ys Lq l (k + 1)) E a := by unfold pOp; simp only [h0]; exact h
    exact wpAnyP_first hs hc hn hkn h0 (Region.noSelect_spec hsel) l.length listed E a inv (Region.free_spec h0 hf) hr'
      (pOp_mono (fun E a h => wpAnyP_lex hsel hs hc hn l (k + 1) _ E a (fun j hj => by have := hl (j + 1) (by simp; omega); simpa [Nat.add_assoc, Nat.add_comm 1 j] using this) (by simp only [List.length_cons] at hk; omega) hsm (fun hlt => (by
        by_cases e : k = sp
        · subst e
          have hsz := inv.size
          have : k < listed.size := by omega
          simp [this]
        · rw [getD_set_ne false e]; exact hsk (by omega))) (inv.set hr' hkn) hB' h) hst)


/-- The first m operations in every order, the special one among them; the rest behind them. -/
theorem wpIn_region_phase {F : Fence} {n : Nat} (m sp : Nat) {id : Nat} {Q : Exit → Act → World → Prop} {a : Act} {w : World} {l : List Oper} (yl : List Yld) (Rl : World → World → Prop) (C : Bool → World → Prop) (hf : ∀ f, F.fn f) (hd : F.depth = none) (hcall : ∀ (k : Nat) (f : Nat) args w R, Calls P f args w R → CallsIn F k P f args w R)
    (hm : P.follows .mixedOrders = true) (hB : (noDefer l.toArray && Region.lexTailB .any l.toArray m) = true) (hspm : sp < m) (hsg : (match l.toArray[sp]? with | some o => o.guard.isNone | none => false) = true) (hys : ∀ y, y ∈ yl → y.stableP Rl) (hC0 : C false { w with drawn := w.drawn + 1 })
    (h : wpP P .any l.toArray Rl C sp (fun i => yl.getD i (.any fun _ _ => True)) (fun a' w' => wpListIn F n P l.toArray Q (l.drop m) a' w') (l.take m) 0 (fun _ => none) a) : (Code.region id l.toArray true).wpIn F n P Q a w := by
  simp only [Region.lexTailB, Bool.and_eq_true, decide_eq_true_eq] at hB
  obtain ⟨hdf, ⟨⟨⟨hsel, hn⟩, hs⟩, hc⟩, hlex⟩ := hB
  have hn' : m < l.length := by simpa using hn
  have htl : (l.take m).length = m := by simp; omega
  have hdl : (l.drop m).length = l.toArray.size - m := by simp
  have inv0 : HeadInv .any l.toArray m (Array.replicate l.toArray.size false) :=
    ⟨by simp, fun j oj _ hl => (by rw [getD_replicate_false] at hl; cases hl), fun t _ ht => getD_in (by simpa using ht) (getD_replicate_false _ _)⟩
  have H := wpAnyP_lex (md := .any) (g := l.toArray.size - m) hsel hs hc hn (l.take m) 0 _ _ a (fun j hj => by
    have hj' : j < m := by rw [htl] at hj; exact hj
    simp [hj']) (by simpa using htl) hspm (fun h => absurd h (Nat.not_lt_zero _)) inv0 (by rw [htl]; exact hlex) h
  refine wpIn_region_any hm ?_
  have hyl : ∀ i, (yl.getD i (.any fun _ _ => True)).stableP Rl := by
    intro i
    by_cases hi : i < yl.length
    · simp only [List.getD, List.getElem?_eq_getElem hi, Option.getD_some]
      exact hys _ (List.getElem_mem hi)
    · simp only [List.getD, List.getElem?_eq_none (Nat.le_of_not_lt hi), Option.getD_none]
      exact fun _ _ _ _ _ => trivial
  have := wpAnyIn_of_P (n := n) (Q' := Q) (g := l.toArray.size - m) hf hd hcall hdf (fun o ho => by rw [ho] at hsg; simpa using hsg) (by omega) hyl (fun listed a' w' _ hL => by
    have := wpAnyIn_of_seq (md := .any) (Q' := Q) (F := F) (n := n) (l.drop m) m listed a' w' (fun j => by simp [List.getElem?_drop]) (by rw [hdl]; exact hL.1) hL.2
    rwa [hdl] at this) _ _ (fun _ => none) _ { w with drawn := w.drawn + 1 } (by rw [getD_replicate_false]; exact hC0) (fun i v hv => by cases hv) H
  rw [htl, show m + (l.toArray.size - m) = l.toArray.size by omega] at this
  exact this

theorem wpP_step {Q : Act → World → Prop} {o : Oper} {rest : List Oper} {k : Nat} {E : Nat → Option Value} {a : Act}
    (h : ∀ K : (Nat → Option Value) → Act → Prop, (∀ E a, wpP P md ops Rl C sp ys Q rest (k + 1) E a → K E a) → if Region.wanted o (yielded ops a.tmps) then yieldsP P md Rl C sp ys E k o a ∧ nextM (ys k) k K E o.dst a else K E (a.put o.dst undef)) :
    wpP P md ops Rl C sp ys Q (o :: rest) k E a := h _ (fun _ _ h => h)
theorem wpP_nil {Q : Act → World → Prop} {k : Nat} {E : Nat → Option Value} {a : Act} (h : ∀ w, C true w → (∀ i, Known ys E i w) → Q a w) : wpP P md ops Rl C sp ys Q [] k E a := h
end
end Go.Proofs.YthfciekhmbfmfaaGreatDoor

/- As XPhase, with two special operations one behind the other, and a relation for each phase: a call that turns memory, and the append of what it hands back. No program is named here. -/
namespace Go.Proofs.YthfciekhmbfmfaaGreatDoor
open Go Go.RowKit

section
variable {P : Program} {ops : Array Oper} {md : Region.Mode} {Rl : Nat → World → World → Prop} {C : Nat → World → Prop} {sp sq : Nat} {ys : Nat → Yld}

/-- Operation k: the special one takes the world from the first phase to the second; the others leave the phase. -/
def yieldsR (P : Program) (md : Region.Mode) (Rl : Nat → World → World → Prop) (C : Nat → World → Prop) (sp sq : Nat) (ys : Nat → Yld) (E : Nat → Option Value) (k : Nat) (o : Oper) (a : Act) : Prop :=
  if k = sp then ∀ w, C 0 w → deps md ys o E w → uponP P (fun u w' => Rl 0 w w' ∧ C 1 w' ∧ (ys k).says u w') ((execOp a.eval o).run P w)
  else if k = sq then ∀ w, C 1 w → deps md ys o E w → uponP P (fun u w' => Rl 1 w w' ∧ C 2 w' ∧ (ys k).says u w') ((execOp a.eval o).run P w)
  else ∀ b w, C b w → deps md ys o E w → uponP P (fun u w' => Rl b w w' ∧ C b w' ∧ (ys k).says u w') ((execOp a.eval o).run P w)

/-- How many of the two have come. -/
def phase (sp sq : Nat) (listed : Array Bool) : Nat := if listed.getD sq false then 2 else if listed.getD sp false then 1 else 0

def rOp (P : Program) (md : Region.Mode) (ops : Array Oper) (Rl : Nat → World → World → Prop) (C : Nat → World → Prop) (sp sq : Nat) (ys : Nat → Yld) (k : Nat) (K : (Nat → Option Value) → Act → Prop) (E : Nat → Option Value) (a : Act) : Prop :=
  match ops[k]? with
  | none => K E a
  | some o => if Region.wanted o (yielded ops a.tmps) then yieldsR P md Rl C sp sq ys E k o a ∧ nextM (ys k) k K E o.dst a else K E (a.put o.dst undef)

def wpR (P : Program) (md : Region.Mode) (ops : Array Oper) (Rl : Nat → World → World → Prop) (C : Nat → World → Prop) (sp sq : Nat) (ys : Nat → Yld) (Q : Act → World → Prop) : List Oper → Nat → (Nat → Option Value) → Act → Prop
  | [], _, E, a => ∀ w, C 2 w → (∀ i, Known ys E i w) → Q a w
  | o :: rest, k, E, a => if Region.wanted o (yielded ops a.tmps) then yieldsR P md Rl C sp sq ys E k o a ∧ nextM (ys k) k (wpR P md ops Rl C sp sq ys Q rest (k + 1)) E o.dst a else wpR P md ops Rl C sp sq ys Q rest (k + 1) E (a.put o.dst undef)

def wpAnyR (P : Program) (md : Region.Mode) (ops : Array Oper) (Rl : Nat → World → World → Prop) (C : Nat → World → Prop) (sp sq : Nat) (ys : Nat → Yld) (m : Nat) (L : Array Bool → Act → World → Prop) : Nat → Array Bool → (Nat → Option Value) → Act → Prop
  | 0, listed, E, a => (∀ k, k ∈ Region.ready md ops listed → m ≤ k) ∧ listed.getD sq false = true ∧ ∀ w, C 2 w → (∀ i, Known ys E i w) → L listed a w
  | f + 1, listed, E, a => Region.ready md ops listed ≠ [] ∧ ∀ i ∈ Region.ready md ops listed, i < m ∧ rOp P md ops Rl C sp sq ys i (wpAnyR P md ops Rl C sp sq ys m L f (listed.setIfInBounds i true)) E a

theorem rOp_mono {k : Nat} {E : Nat → Option Value} {a : Act} {K K' : (Nat → Option Value) → Act → Prop} (h : ∀ E a, K E a → K' E a) (hh : rOp P md ops Rl C sp sq ys k K E a) : rOp P md ops Rl C sp sq ys k K' E a := by
  unfold rOp at *
  split
  · exact h _ _ (by simpa [*] using hh)
  · rename_i o ho
    simp only [ho] at hh
    split
    · rename_i hw; simp only [hw, if_true] at hh; exact ⟨hh.1, nextM_mono h hh.2⟩
    · rename_i hw; simp only [hw] at hh; exact h _ _ hh

theorem Known.extR {E : Nat → Option Value} {b : Nat} {w w' : World} (hy : ∀ i b, (i = sq → b = 2) → (ys i).stableP (Rl b)) (hb : ∀ v, E sq = some v → b = 2) (he : Rl b w w') (h : ∀ i, Known ys E i w) : ∀ i, Known ys E i w' := fun i v hv => by
  have h1 := h i v hv
  have h2 := hy i b (fun e => by subst e; exact hb v hv)
  cases hyi : ys i with
  | det x => rw [hyi] at h1; exact h1
  | any p => rw [hyi] at h1 h2; exact h2 _ _ _ he h1

theorem yieldsR_put {k : Nat} {o : Oper} {E E' : Nat → Option Value} {a a' : Act} (he : execOp a'.eval o = execOp a.eval o) (hE : ∀ e, e ∈ o.after → Region.binds md e = true → E' e.on = E e.on)
    (h : yieldsR P md Rl C sp sq ys E k o a) : yieldsR P md Rl C sp sq ys E' k o a' := by
  unfold yieldsR at *
  rw [he]
  have hd' : ∀ w, deps md ys o E' w → deps md ys o E w := fun w hd e h1 h2 v hv => hd e h1 h2 v (by rw [hE e h1 h2]; exact hv)
  split
  · rename_i hk; rw [if_pos hk] at h; exact fun w hC hd => h w hC (hd' w hd)
  · rename_i hk
    rw [if_neg hk] at h
    split
    · rename_i hk2; rw [if_pos hk2] at h; exact fun w hC hd => h w hC (hd' w hd)
    · rename_i hk2; rw [if_neg hk2] at h; exact fun b w hC hd => h b w hC (hd' w hd)

theorem getD_set_self {listed : Array Bool} {i : Nat} (h : listed.getD i true = false) : (listed.setIfInBounds i true).getD i false = true := by
  rcases Nat.lt_or_ge i listed.size with h' | h'
  · simp [h']
  · simp [Array.getElem?_eq_none h'] at h

theorem wpAnyIn_of_R {F : Fence} {n m g : Nat} {L : Array Bool → Act → World → Prop} {Q' : Exit → Act → World → Prop} (hf : ∀ f, F.fn f) (hd : F.depth = none) (hcall : ∀ (k : Nat) (f : Nat) args w R, Calls P f args w R → CallsIn F k P f args w R) (hdf : noDefer ops = true)
    (hsg : ∀ o, ops[sp]? = some o → o.guard = none) (hsg2 : ∀ o, ops[sq]? = some o → o.guard = none) (hne : sp ≠ sq) (hw : Region.waitsFor md ops sq sp = true) (hys : ∀ i b, (i = sq → b = 2) → (ys i).stableP (Rl b)) (hL : ∀ listed a w, C 2 w → L listed a w → wpAnyIn F n P md ops Q' g listed a w) :
    ∀ (fuel : Nat) (listed : Array Bool) (E : Nat → Option Value) (a : Act) (w : World), (listed.getD sq false = true → listed.getD sp false = true) → (∀ v, E sq = some v → listed.getD sq false = true) → C (phase sp sq listed) w → (∀ i, Known ys E i w) → wpAnyR P md ops Rl C sp sq ys m L fuel listed E a → wpAnyIn F n P md ops Q' (fuel + g) listed a w := by
  intro fuel
  induction fuel with
  | zero =>
    intro listed E a w _ _ hC hE h
    rw [Nat.zero_add]
    rw [phase, h.2.1] at hC
    exact hL _ _ _ hC (h.2.2 w hC hE)
  | succ fuel ih =>
    intro listed E a w hI hE2 hC hE h
    rw [show fuel + 1 + g = (fuel + g) + 1 by omega]
    refine ⟨fun h0 => absurd h0 h.1, fun i hi => ?_⟩
    have h1 := (h.2 i hi).2
    obtain ⟨hun, oi, hoi, hall⟩ := mem_ready.1 hi
    have hself := getD_set_self hun
    have hset : ∀ k, i ≠ k → (listed.setIfInBounds i true).getD k false = listed.getD k false := fun k hne => getD_set_ne false hne
    have hI' : (listed.setIfInBounds i true).getD sq false = true → (listed.setIfInBounds i true).getD sp false = true := by
      intro h2
      by_cases e1 : i = sp
      · rw [← e1]; exact hself
      · rw [hset sp e1]
        by_cases e2 : i = sq
        · subst e2
          obtain ⟨oj, hoj, e, he, hb, hon⟩ := Region.waitsFor_spec hw
          rw [hoi] at hoj
          cases hoj
          rw [← hon]
          exact hall e he hb
        · rw [hset sq e2] at h2; exact hI h2
    have hgo : ∀ (b : Nat) (o : Oper) (v : Value) (w' : World), (∀ v, E sq = some v → b = 2) → Rl b w w' → C (phase sp sq (listed.setIfInBounds i true)) w' → (ys i).says v w' → nextM (ys i) i (wpAnyR P md ops Rl C sp sq ys m L fuel (listed.setIfInBounds i true)) E o.dst a → wpAnyIn F n P md ops Q' (fuel + g) (listed.setIfInBounds i true) (a.put o.dst v) w' := by
      intro b o v w' hb he hC' hs hn
      have hE2' : ∀ v, E sq = some v → (listed.setIfInBounds i true).getD sq false = true := fun v hv => by
        by_cases e : i = sq
        · rw [← e]; exact hself
        · rw [hset sq e]; exact hE2 v hv
      unfold nextM at hn
      cases hy : ys i with
      | det u =>
        rw [hy] at hs hn
        obtain rfl : v = u := hs
        exact ih _ _ _ _ hI' hE2' hC' (Known.extR hys hb he hE) hn
      | any p =>
        have hs' := hs
        rw [hy] at hn
        refine ih _ _ _ _ hI' (fun u hu => ?_) hC' (Known.set (Known.extR hys hb he hE) hs') (hn v)
        by_cases e : i = sq
        · rw [← e]; exact hself
        · rw [setE, if_neg (fun h => e h.symm)] at hu; exact hE2' u hu
    have hup : ∀ (o : Oper) (b b' : Nat), (∀ v, E sq = some v → b = 2) → uponP P (fun u w' => Rl b w w' ∧ C b' w' ∧ (ys i).says u w') ((execOp a.eval o).run P w) → b' = phase sp sq (listed.setIfInBounds i true) → (∀ c, o.op ≠ .defer c) →
        nextM (ys i) i (wpAnyR P md ops Rl C sp sq ys m L fuel (listed.setIfInBounds i true)) E o.dst a → o.wpIn F n P a w (wpAnyIn F n P md ops Q' (fuel + g) (listed.setIfInBounds i true)) Q' := by
      intro o b b' hbb h3 hb hnd hn
      subst hb
      refine ⟨fun f _ => hf f, ?_⟩
      rw [Oper.semAt_plain F _ _ hnd]
      generalize (execOp a.eval o).run P w = r at *
      cases r with
      | ok x w' =>
        cases x <;> simp only [uponP] at h3 <;> simp only [Oper.uponIn]
        case value u => exact hgo b o u w' hbb h3.1 h3.2.1 h3.2.2 hn
        case skip => exact hgo b o undef w' hbb h3.1 h3.2.1 h3.2.2 hn
        case enter f args =>
          refine ⟨fun h => (by rw [hd] at h; cases h), (hcall _ _ _ _ _ h3).mono ?_⟩
          rintro e w'' ⟨v, rfl, he', hC', hs⟩
          exact hgo b o v w'' hbb he' hC' hs hn
      | halt x w' => simp only [uponP] at h3
    have hph : i ≠ sp → i ≠ sq → phase sp sq (listed.setIfInBounds i true) = phase sp sq listed := fun e1 e2 => by rw [phase, phase, hset sp e1, hset sq e2]
    unfold rOp at h1
    unfold wpOpIn
    simp only [hoi] at h1 ⊢
    by_cases hwt : Region.wanted oi (yielded ops a.tmps) = true
    · simp only [hwt, if_true] at h1 ⊢
      obtain ⟨hy, hn⟩ := h1
      unfold yieldsR at hy
      by_cases hk : i = sp
      · subst hk
        rw [if_pos rfl] at hy
        have h0 : listed.getD i false = false := getD_both hun
        have h2 : listed.getD sq false = false := by
          cases h : listed.getD sq false with
          | false => rfl
          | true => rw [hI h] at h0; cases h0
        have hp0 : phase i sq listed = 0 := by rw [phase, h2, h0]; rfl
        rw [hp0] at hC
        refine hup oi 0 1 (fun v hv => by rw [hE2 v hv] at h2; cases h2) (hy w hC (fun e _ _ => hE e.on)) ?_ (fun c => noDefer_spec hdf hoi c) hn
        rw [phase, hset sq hne, h2, hself]
        rfl
      · rw [if_neg hk] at hy
        by_cases hk2 : i = sq
        · subst hk2
          rw [if_pos rfl] at hy
          have h0 : listed.getD i false = false := getD_both hun
          have h1' : listed.getD sp false = true := by
            have := hI' hself
            rwa [hset sp hk] at this
          have hp1 : phase sp i listed = 1 := by rw [phase, h0, h1']; rfl
          rw [hp1] at hC
          refine hup oi 1 2 (fun v hv => by rw [hE2 v hv] at h0; cases h0) (hy w hC (fun e _ _ => hE e.on)) ?_ (fun c => noDefer_spec hdf hoi c) hn
          rw [phase, hself]
          rfl
        · rw [if_neg hk2] at hy
          exact hup oi _ _ (fun v hv => by rw [phase, hE2 v hv]; rfl) (hy _ w hC (fun e _ _ => hE e.on)) (hph hk hk2).symm (fun c => noDefer_spec hdf hoi c) hn
    · have hwf : Region.wanted oi (yielded ops a.tmps) = false := by simpa using hwt
      simp only [hwf] at h1 ⊢
      have hk : i ≠ sp := fun e => by
        subst e
        rw [Region.wanted, hsg oi hoi] at hwf
        cases hwf
      have hk2 : i ≠ sq := fun e => by
        subst e
        rw [Region.wanted, hsg2 oi hoi] at hwf
        cases hwf
      refine ⟨fun f _ => hf f, ih _ _ _ _ hI' (fun v hv => by rw [hset sq hk2]; exact hE2 v hv) ?_ hE h1⟩
      rw [hph hk hk2]
      exact hC

theorem wpAnyR_first {m : Nat} {L : Array Bool → Act → World → Prop} {i : Nat} {oi : Oper} (hs : Region.sinkB md ops m = true) (hc : Region.chainB md ops m = true) (hn : m < ops.size) (hin : i < m) (hi : ops[i]? = some oi) (hsel : ∀ (j : Nat) (o : Oper) cs b, ops[j]? = some o → o.op ≠ .select cs b) :
    ∀ (fuel : Nat) (listed : Array Bool) (E : Nat → Option Value) (a : Act), HeadInv md ops m listed →
      (∀ j oj, ops[j]? = some oj → j ≠ i → listed.getD j true = false → (∀ e ∈ oj.after, Region.binds md e = true → e.on ≠ i) → oi.apart ops oj = true) →
      i ∈ Region.ready md ops listed → rOp P md ops Rl C sp sq ys i (wpAnyR P md ops Rl C sp sq ys m L fuel (listed.setIfInBounds i true)) E a → wpAnyR P md ops Rl C sp sq ys m L (fuel + 1) listed E a := by
  intro fuel
  induction fuel with
  | zero =>
    intro listed E a inv _ hr H
    have hun := (mem_ready.1 hr).1
    refine ⟨fun h => (by rw [h] at hr; cases hr), fun j hj => ?_⟩
    have hjn : j < m := by
      rcases Nat.lt_or_ge j m with h | h
      · exact h
      · exact absurd hj (tail_waits hs hc hn inv _ i rfl hin hun j h)
    refine ⟨hjn, ?_⟩
    by_cases hji : j = i
    · subst hji; exact H
    · exfalso
      have hrj := ready_mono hj hji
      have hall : ∀ k, k ∈ Region.ready md ops (listed.setIfInBounds i true) → m ≤ k := by
        unfold rOp at H
        simp only [hi] at H
        split at H
        · have := H.2
          unfold nextM at this
          split at this
          · exact this.1
          · exact (this undef).1
        · exact H.1
      have := hall j hrj
      omega
  | succ fuel ih =>
    intro listed E a inv hfree hr H
    have hun := (mem_ready.1 hr).1
    refine ⟨fun h => (by rw [h] at hr; cases hr), fun j hj => ?_⟩
    have hjn : j < m := by
      rcases Nat.lt_or_ge j m with h | h
      · exact h
      · exact absurd hj (tail_waits hs hc hn inv _ i rfl hin hun j h)
    refine ⟨hjn, ?_⟩
    by_cases hji : j = i
    · subst hji; exact H
    · have invj := inv.set hj hjn
      obtain ⟨hjun, oj, hoj, hall⟩ := mem_ready.1 hj
      have hnot : ∀ e ∈ oj.after, Region.binds md e = true → e.on ≠ i := fun e he hb heq => by
        have h1 := hall e he hb
        have h0 := (mem_ready.1 hr).1
        rw [heq] at h1
        rcases Nat.lt_or_ge i listed.size with h' | h'
        · simp [h'] at h0 h1; rw [h0] at h1; cases h1
        · simp [Array.getElem?_eq_none h'] at h1
      have hnot' : ∀ e ∈ oi.after, Region.binds md e = true → e.on ≠ j := fun e he hb heq => by
        obtain ⟨_, oi', hoi', hall'⟩ := mem_ready.1 hr
        rw [hi] at hoi'
        cases hoi'
        have h1 := hall' e he hb
        rw [heq] at h1
        rcases Nat.lt_or_ge j listed.size with h' | h'
        · simp [h'] at hjun h1; rw [hjun] at h1; cases h1
        · simp [Array.getElem?_eq_none h'] at h1
      have hap := hfree j oj hoj hji hjun hnot
      obtain ⟨h1, h2, h3⟩ := Oper.apart_spec hap
      have hfree' : ∀ k ok, ops[k]? = some ok → k ≠ i → (listed.setIfInBounds j true).getD k true = false →
          (∀ e ∈ ok.after, Region.binds md e = true → e.on ≠ i) → oi.apart ops ok = true := fun k ok hk hki hun hno => by
        refine hfree k ok hk hki ?_ hno
        by_cases hjk : j = k
        · subst hjk; exact hjun
        · rw [getD_set_ne true hjk] at hun; exact hun
      have hri := ready_mono hr (Ne.symm hji)
      -- what i's own walk says of j, whatever i has yielded
      unfold rOp at H
      simp only [hi] at H
      -- j is run ahead of i: E', d: what i would have added
      have key : ∀ (Ei : (Nat → Option Value) → Nat → Option Value) (x : Value), (∀ (E : Nat → Option Value) n, n ≠ i → Ei E n = E n) → (∀ (E : Nat → Option Value) u, Ei (setE E j u) = setE (Ei E) j u) →
          wpAnyR P md ops Rl C sp sq ys m L (fuel + 1) (listed.setIfInBounds i true) (Ei E) (a.put oi.dst x) →
          (if Region.wanted oj (yielded ops a.tmps) = true then yieldsR P md Rl C sp sq ys E j oj a ∧ nextM (ys j) j (fun E' a' => wpAnyR P md ops Rl C sp sq ys m L fuel ((listed.setIfInBounds j true).setIfInBounds i true) (Ei E') (a'.put oi.dst x)) E oj.dst a
           else wpAnyR P md ops Rl C sp sq ys m L fuel ((listed.setIfInBounds j true).setIfInBounds i true) (Ei E) ((a.put oj.dst undef).put oi.dst x)) := by
        intro Ei x hEi hEs hx
        have hj2 := (hx.2 j (ready_mono hj hji)).2
        unfold rOp at hj2
        simp only [hoj] at hj2
        rw [wanted_put oj a oi.dst x h1] at hj2
        rw [Array.setIfInBounds_comm _ _ (Ne.symm hji)] at hj2
        split at hj2
        · rename_i hw
          rw [if_pos hw]
          refine ⟨yieldsR_put (execOp_put oj (fun cs b => hsel j oj cs b hoj) a oi.dst x h1).symm (fun e he hb => (hEi E _ (hnot e he hb)).symm) hj2.1, ?_⟩
          have := hj2.2
          unfold nextM at this ⊢
          cases hy : ys j with
          | det v => simp only [hy] at this ⊢; rw [← Act.put_comm a x v h2]; exact this
          | any p => simp only [hy] at this ⊢; intro u; rw [hEs, ← Act.put_comm a x u h2]; exact this u
        · rename_i hw
          rw [if_neg hw]
          rw [← Act.put_comm a x undef h2]
          exact hj2
      unfold rOp
      simp only [hoj]
      by_cases hwi : Region.wanted oi (yielded ops a.tmps) = true
      · simp only [hwi, if_true] at H
        obtain ⟨hyi, hni⟩ := H
        cases hy : ys i with
        | det x =>
          unfold nextM at hni
          simp only [hy] at hni
          have hk := key id x (fun _ _ _ => rfl) (fun _ _ => rfl) hni
          by_cases hwj : Region.wanted oj (yielded ops a.tmps) = true
          · rw [if_pos hwj] at hk ⊢
            refine ⟨hk.1, ?_⟩
            have hn := hk.2
            unfold nextM at hn ⊢
            have fin : ∀ (E' : Nat → Option Value) (u : Value), (∀ n, n ≠ j → E' n = E n) → wpAnyR P md ops Rl C sp sq ys m L fuel ((listed.setIfInBounds j true).setIfInBounds i true) E' ((a.put oj.dst u).put oi.dst x) →
                wpAnyR P md ops Rl C sp sq ys m L (fuel + 1) (listed.setIfInBounds j true) E' (a.put oj.dst u) := fun E' u hE' h => by
              refine ih (listed.setIfInBounds j true) E' _ invj hfree' hri ?_
              unfold rOp
              simp only [hi]
              rw [wanted_put oi a oj.dst u h3, if_pos hwi]
              refine ⟨yieldsR_put (execOp_put oi (fun cs b => hsel i oi cs b hi) a oj.dst u h3) (fun e he hb => hE' _ (hnot' e he hb)) hyi, ?_⟩
              unfold nextM
              simp only [hy]
              exact h
            cases hyj : ys j with
            | det v => simp only [hyj] at hn ⊢; exact fin _ v (fun _ _ => rfl) hn
            | any p => simp only [hyj] at hn ⊢; exact fun u => fin _ u (fun n hn => by simp [setE, hn]) (hn u)
          · rw [if_neg hwj] at hk ⊢
            refine ih (listed.setIfInBounds j true) E _ invj hfree' hri ?_
            unfold rOp
            simp only [hi]
            rw [wanted_put oi a oj.dst undef h3, if_pos hwi]
            refine ⟨yieldsR_put (execOp_put oi (fun cs b => hsel i oi cs b hi) a oj.dst undef h3) (fun _ _ _ => rfl) hyi, ?_⟩
            unfold nextM
            simp only [hy]
            exact hk
        | any p =>
          unfold nextM at hni
          simp only [hy] at hni
          have hk := fun x => key (fun E => setE E i x) x (fun E n hn => by simp [setE, hn]) (fun E u => setE_comm hji u x) (hni x)
          by_cases hwj : Region.wanted oj (yielded ops a.tmps) = true
          · simp only [hwj, if_true] at hk ⊢
            refine ⟨(hk undef).1, ?_⟩
            have hn := fun x => (hk x).2
            unfold nextM at hn ⊢
            have fin : ∀ (E' : Nat → Option Value) (u : Value), (∀ n, n ≠ j → E' n = E n) → (∀ x, wpAnyR P md ops Rl C sp sq ys m L fuel ((listed.setIfInBounds j true).setIfInBounds i true) (setE E' i x) ((a.put oj.dst u).put oi.dst x)) →
                wpAnyR P md ops Rl C sp sq ys m L (fuel + 1) (listed.setIfInBounds j true) E' (a.put oj.dst u) := fun E' u hE' h => by
              refine ih (listed.setIfInBounds j true) E' _ invj hfree' hri ?_
              unfold rOp
              simp only [hi]
              rw [wanted_put oi a oj.dst u h3, if_pos hwi]
              refine ⟨yieldsR_put (execOp_put oi (fun cs b => hsel i oi cs b hi) a oj.dst u h3) (fun e he hb => hE' _ (hnot' e he hb)) hyi, ?_⟩
              unfold nextM
              simp only [hy]
              exact h
            cases hyj : ys j with
            | det v => simp only [hyj] at hn ⊢; exact fin _ v (fun _ _ => rfl) hn
            | any q => simp only [hyj] at hn ⊢; exact fun u => fin _ u (fun n hn => by simp [setE, hn]) (fun x => hn x u)
          · simp only [hwj] at hk ⊢
            refine ih (listed.setIfInBounds j true) E _ invj hfree' hri ?_
            unfold rOp
            simp only [hi]
            rw [wanted_put oi a oj.dst undef h3, if_pos hwi]
            refine ⟨yieldsR_put (execOp_put oi (fun cs b => hsel i oi cs b hi) a oj.dst undef h3) (fun _ _ _ => rfl) hyi, ?_⟩
            unfold nextM
            simp only [hy]
            exact hk
      · simp only [hwi] at H
        have hk := key id undef (fun _ _ _ => rfl) (fun _ _ => rfl) H
        by_cases hwj : Region.wanted oj (yielded ops a.tmps) = true
        · rw [if_pos hwj] at hk ⊢
          refine ⟨hk.1, ?_⟩
          have hn := hk.2
          unfold nextM at hn ⊢
          have fin : ∀ (E' : Nat → Option Value) (u : Value), wpAnyR P md ops Rl C sp sq ys m L fuel ((listed.setIfInBounds j true).setIfInBounds i true) E' ((a.put oj.dst u).put oi.dst undef) →
              wpAnyR P md ops Rl C sp sq ys m L (fuel + 1) (listed.setIfInBounds j true) E' (a.put oj.dst u) := fun E' u h => by
            refine ih (listed.setIfInBounds j true) E' _ invj hfree' hri ?_
            unfold rOp
            simp only [hi]
            rw [wanted_put oi a oj.dst u h3, if_neg hwi]
            exact h
          cases hyj : ys j with
          | det v => simp only [hyj] at hn ⊢; exact fin _ v hn
          | any q => simp only [hyj] at hn ⊢; exact fun u => fin _ u (hn u)
        · rw [if_neg hwj] at hk ⊢
          refine ih (listed.setIfInBounds j true) E _ invj hfree' hri ?_
          unfold rOp
          simp only [hi]
          rw [wanted_put oi a oj.dst undef h3, if_neg hwi]
          exact hk


theorem wpAnyR_lex {m g : Nat} {Lq : Act → World → Prop} (hsel : Region.noSelect ops = true) (hs : Region.sinkB md ops m = true) (hc : Region.chainB md ops m = true) (hn : m < ops.size) :
    ∀ (l : List Oper) (k : Nat) (listed : Array Bool) (E : Nat → Option Value) (a : Act), (∀ j, j < l.length → l[j]? = ops[k + j]?) → k + l.length = m → sq < m → (sq < k → listed.getD sq false = true) → HeadInv md ops m listed →
    Region.lexHead md ops g l.length k listed = true → wpR P md ops Rl C sp sq ys Lq l k E a →
    wpAnyR P md ops Rl C sp sq ys m (fun listed' a' w' => Region.seqB md ops g m listed' = true ∧ Lq a' w') l.length listed E a
  | [], k, listed, E, a, _, hk, hsm, hsk, _, hB, h => by
    have : k = m := by simpa using hk
    subst this
    have hB' : Region.seqB md ops g k listed = true := by simpa [Region.lexHead] using hB
    exact ⟨seqB_ready hB', hsk hsm, fun w hC hE => ⟨hB', h w hC hE⟩⟩
  | o :: l, k, listed, E, a, hl, hk, hsm, hsk, inv, hB, h => by
    have h0 : ops[k]? = some o := by simpa using (hl 0 (by simp)).symm
    simp only [List.length_cons, Region.lexHead, Bool.and_eq_true] at hB
    obtain ⟨⟨hr, hf⟩, hB'⟩ := hB
    have hkn : k < m := by simp only [List.length_cons] at hk; omega
    have hr' : k ∈ Region.ready md ops listed := by simpa using hr
    have hst : rOp P md ops Rl C sp sq ys k (wpR P md ops Rl C sp sq ys Lq l (k + 1)) E a := by unfold rOp; simp only [h0]; exact h
    exact wpAnyR_first hs hc hn hkn h0 (Region.noSelect_spec hsel) l.length listed E a inv (Region.free_spec h0 hf) hr'
      (rOp_mono (fun E a h => wpAnyR_lex hsel hs hc hn l (k + 1) _ E a (fun j hj => by have := hl (j + 1) (by simp; omega); simpa [Nat.add_assoc, Nat.add_comm 1 j] using this) (by simp only [List.length_cons] at hk; omega) hsm (fun hlt => (by
        by_cases e : k = sq
        · subst e
          have hsz := inv.size
          have : k < listed.size := by omega
          simp [this]
        · rw [getD_set_ne false e]; exact hsk (by omega))) (inv.set hr' hkn) hB' h) hst)


/-- The first m operations in every order, the special one among them; the rest behind them. -/
theorem wpIn_region_phases {F : Fence} {n : Nat} (m sp sq : Nat) {id : Nat} {Q : Exit → Act → World → Prop} {a : Act} {w : World} {l : List Oper} (yl : List Yld) (Rl : Nat → World → World → Prop) (C : Nat → World → Prop) (hf : ∀ f, F.fn f) (hd : F.depth = none) (hcall : ∀ (k : Nat) (f : Nat) args w R, Calls P f args w R → CallsIn F k P f args w R)
    (hm : P.follows .mixedOrders = true) (hB : (noDefer l.toArray && Region.lexTailB .any l.toArray m) = true) (hspm : sq < m) (hne : sp ≠ sq) (hsg : ((match l.toArray[sp]? with | some o => o.guard.isNone | none => false) && (match l.toArray[sq]? with | some o => o.guard.isNone | none => false) && Region.waitsFor .any l.toArray sq sp) = true) (hys : ∀ i b, (i = sq → b = 2) → (yl.getD i (.any fun _ _ => True)).stableP (Rl b)) (hC0 : C 0 { w with drawn := w.drawn + 1 })
    (h : wpR P .any l.toArray Rl C sp sq (fun i => yl.getD i (.any fun _ _ => True)) (fun a' w' => wpListIn F n P l.toArray Q (l.drop m) a' w') (l.take m) 0 (fun _ => none) a) : (Code.region id l.toArray true).wpIn F n P Q a w := by
  simp only [Region.lexTailB, Bool.and_eq_true, decide_eq_true_eq] at hB
  obtain ⟨hdf, ⟨⟨⟨hsel, hn⟩, hs⟩, hc⟩, hlex⟩ := hB
  have hn' : m < l.length := by simpa using hn
  have htl : (l.take m).length = m := by simp; omega
  have hdl : (l.drop m).length = l.toArray.size - m := by simp
  have inv0 : HeadInv .any l.toArray m (Array.replicate l.toArray.size false) :=
    ⟨by simp, fun j oj _ hl => (by rw [getD_replicate_false] at hl; cases hl), fun t _ ht => getD_in (by simpa using ht) (getD_replicate_false _ _)⟩
  have H := wpAnyR_lex (md := .any) (g := l.toArray.size - m) hsel hs hc hn (l.take m) 0 _ _ a (fun j hj => by
    have hj' : j < m := by rw [htl] at hj; exact hj
    simp [hj']) (by simpa using htl) hspm (fun h => absurd h (Nat.not_lt_zero _)) inv0 (by rw [htl]; exact hlex) h
  refine wpIn_region_any hm ?_
  simp only [Bool.and_eq_true] at hsg
  obtain ⟨⟨hg1, hg2⟩, hwf⟩ := hsg
  have := wpAnyIn_of_R (n := n) (Q' := Q) (g := l.toArray.size - m) hf hd hcall hdf (fun o ho => by rw [ho] at hg1; simpa using hg1) (fun o ho => by rw [ho] at hg2; simpa using hg2) hne hwf hys (fun listed a' w' _ hL => by
    have := wpAnyIn_of_seq (md := .any) (Q' := Q) (F := F) (n := n) (l.drop m) m listed a' w' (fun j => by simp [List.getElem?_drop]) (by rw [hdl]; exact hL.1) hL.2
    rwa [hdl] at this) _ _ (fun _ => none) _ { w with drawn := w.drawn + 1 } (fun h => by rw [getD_replicate_false] at h; cases h) (fun v hv => by cases hv) (by rw [phase, getD_replicate_false, getD_replicate_false]; exact hC0) (fun i v hv => by cases hv) H
  rw [htl, show m + (l.toArray.size - m) = l.toArray.size by omega] at this
  exact this

theorem wpR_step {Q : Act → World → Prop} {o : Oper} {rest : List Oper} {k : Nat} {E : Nat → Option Value} {a : Act}
    (h : ∀ K : (Nat → Option Value) → Act → Prop, (∀ E a, wpR P md ops Rl C sp sq ys Q rest (k + 1) E a → K E a) → if Region.wanted o (yielded ops a.tmps) then yieldsR P md Rl C sp sq ys E k o a ∧ nextM (ys k) k K E o.dst a else K E (a.put o.dst undef)) :
    wpR P md ops Rl C sp sq ys Q (o :: rest) k E a := h _ (fun _ _ h => h)
theorem wpR_nil {Q : Act → World → Prop} {k : Nat} {E : Nat → Option Value} {a : Act} (h : ∀ w, C 2 w → (∀ i, Known ys E i w) → Q a w) : wpR P md ops Rl C sp sq ys Q [] k E a := h
end
end Go.Proofs.YthfciekhmbfmfaaGreatDoor
