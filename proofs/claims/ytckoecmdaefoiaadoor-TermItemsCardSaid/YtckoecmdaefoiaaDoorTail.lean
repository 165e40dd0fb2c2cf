/- Regions that draw their order, a tail of which runs in one order behind all else: 'out = append(out, f(x))'. No program is named here. -/
import Derived.StillTail
import Derived.OrdersIn
import Derived.OwnWalkIn
import Derived.RangeFuncCalls
import Derived.Test.YtckoecmdaefoiaaDoorMono
namespace Go.Proofs.YtckoecmdaefoiaaDoor
open Go Go.RowKit

section
variable {P : Program} {ops : Array Oper} {md : Region.Mode} {C : World → Prop} {ys : Nat → Yld}

def wpAnyT (P : Program) (md : Region.Mode) (ops : Array Oper) (C : World → Prop) (ys : Nat → Yld) (m : Nat) (L : Array Bool → Act → World → Prop) : Nat → Array Bool → (Nat → Option Value) → Act → Prop
  | 0, listed, E, a => (∀ k, k ∈ Region.ready md ops listed → m ≤ k) ∧ ∀ w, C w → (∀ i, Known ys E i w) → L listed a w
  | f + 1, listed, E, a => Region.ready md ops listed ≠ [] ∧ ∀ i ∈ Region.ready md ops listed, i < m ∧ mOp P md ops C ys i (wpAnyT P md ops C ys m L f (listed.setIfInBounds i true)) E a

def noDefer (ops : Array Oper) : Bool := ops.all fun o => match o.op with | .defer _ => false | _ => true
theorem noDefer_spec (h : noDefer ops = true) {j : Nat} {o : Oper} (ho : ops[j]? = some o) (c : Call) : o.op ≠ .defer c := fun e => by
  have := Array.all_eq_true'.1 h o (Array.mem_of_getElem? ho)
  rw [e] at this
  cases this

theorem wpAnyIn_of_T {F : Fence} {n m g : Nat} {L : Array Bool → Act → World → Prop} {Q' : Exit → Act → World → Prop} (hf : ∀ f, F.fn f) (hd : F.depth = none) (hcall : ∀ (k : Nat) (f : Nat) args w R, Calls P f args w R → CallsIn F k P f args w R) (hdf : noDefer ops = true)
    (hCx : ∀ w w', C w → Ext w w' → C w') (hys : ∀ i, (ys i).stable) (hL : ∀ listed a w, C w → L listed a w → wpAnyIn F n P md ops Q' g listed a w) :
    ∀ (fuel : Nat) (listed : Array Bool) (E : Nat → Option Value) (a : Act) (w : World), C w → (∀ i, Known ys E i w) → wpAnyT P md ops C ys m L fuel listed E a → wpAnyIn F n P md ops Q' (fuel + g) listed a w := by
  intro fuel
  induction fuel with
  | zero => intro listed E a w hC hE h; rw [Nat.zero_add]; exact hL _ _ _ hC (h.2 w hC hE)
  | succ fuel ih =>
    intro listed E a w hC hE h
    rw [show fuel + 1 + g = (fuel + g) + 1 by omega]
    refine ⟨fun h0 => absurd h0 h.1, fun i hi => ?_⟩
    have h1 := (h.2 i hi).2
    have hgo : ∀ (o : Oper) (v : Value) (w' : World), Ext w w' → (ys i).says v w' → nextM (ys i) i (wpAnyT P md ops C ys m L fuel (listed.setIfInBounds i true)) E o.dst a → wpAnyIn F n P md ops Q' (fuel + g) (listed.setIfInBounds i true) (a.put o.dst v) w' := by
      intro o v w' he hs hn
      unfold nextM at hn
      cases hy : ys i with
      | det u =>
        rw [hy] at hs hn
        obtain rfl : v = u := hs
        exact ih _ _ _ _ (hCx _ _ hC he) (Known.ext hys he hE) hn
      | any p =>
        have hs' := hs
        rw [hy] at hn
        exact ih _ _ _ _ (hCx _ _ hC he) (Known.set (Known.ext hys he hE) hs') (hn v)
    unfold mOp at h1
    unfold wpOpIn
    split
    · rename_i ho; simp only [ho] at h1; exact ih _ _ _ _ hC hE h1
    · rename_i o ho
      simp only [ho] at h1
      split
      · rename_i hw
        simp only [hw, if_true] at h1
        obtain ⟨hy, hn⟩ := h1
        have h3 := hy w hC (fun e _ _ => hE e.on)
        refine ⟨fun f _ => hf f, ?_⟩
        rw [Oper.semAt_plain F _ _ (fun c => noDefer_spec hdf ho c)]
        generalize (execOp a.eval o).run P w = r at *
        cases r with
        | ok x w' =>
          cases x <;> simp only [monoUpon] at h3 <;> simp only [Oper.uponIn]
          case value u => exact hgo o u w' h3.1 h3.2 hn
          case skip => exact hgo o undef w' h3.1 h3.2 hn
          case enter f args =>
            obtain ⟨he, hc⟩ := h3
            refine ⟨fun h => (by rw [hd] at h; cases h), (hcall _ _ _ _ _ hc).mono ?_⟩
            rintro e w'' ⟨v, rfl, he', hs⟩
            exact hgo o v w'' (he.trans he') hs hn
        | halt x w' => simp only [monoUpon] at h3
      · rename_i hw
        simp only [hw] at h1
        exact ⟨fun f _ => hf f, ih _ _ _ _ hC hE h1⟩

theorem wpAnyT_first {m : Nat} {L : Array Bool → Act → World → Prop} {i : Nat} {oi : Oper} (hs : Region.sinkB md ops m = true) (hc : Region.chainB md ops m = true) (hn : m < ops.size) (hin : i < m) (hi : ops[i]? = some oi) (hsel : ∀ (j : Nat) (o : Oper) cs b, ops[j]? = some o → o.op ≠ .select cs b) :
    ∀ (fuel : Nat) (listed : Array Bool) (E : Nat → Option Value) (a : Act), HeadInv md ops m listed →
      (∀ j oj, ops[j]? = some oj → j ≠ i → listed.getD j true = false → (∀ e ∈ oj.after, Region.binds md e = true → e.on ≠ i) → oi.apart ops oj = true) →
      i ∈ Region.ready md ops listed → mOp P md ops C ys i (wpAnyT P md ops C ys m L fuel (listed.setIfInBounds i true)) E a → wpAnyT P md ops C ys m L (fuel + 1) listed E a := by
  intro fuel
  induction fuel with
  | zero =>
    intro listed E a inv _ hr H
    have hun := (mem_ready.1 hr).1
    refine ⟨fun h => (by rw [h] at hr; cases hr), fun j hj => ?_⟩
    have hjn : j < m := by
      rcases Nat.lt_or_ge j m with h | h
      · exact h
      · exact absurd hj (tail_waits hs hc hn inv _ i rfl hin hun j h)
    refine ⟨hjn, ?_⟩
    by_cases hji : j = i
    · subst hji; exact H
    · exfalso
      have hrj := ready_mono hj hji
      have hall : ∀ k, k ∈ Region.ready md ops (listed.setIfInBounds i true) → m ≤ k := by
        unfold mOp at H
        simp only [hi] at H
        split at H
        · have := H.2
          unfold nextM at this
          split at this
          · exact this.1
          · exact (this undef).1
        · exact H.1
      have := hall j hrj
      omega
  | succ fuel ih =>
    intro listed E a inv hfree hr H
    have hun := (mem_ready.1 hr).1
    refine ⟨fun h => (by rw [h] at hr; cases hr), fun j hj => ?_⟩
    have hjn : j < m := by
      rcases Nat.lt_or_ge j m with h | h
      · exact h
      · exact absurd hj (tail_waits hs hc hn inv _ i rfl hin hun j h)
    refine ⟨hjn, ?_⟩
    by_cases hji : j = i
    · subst hji; exact H
    · have invj := inv.set hj hjn
      obtain ⟨hjun, oj, hoj, hall⟩ := mem_ready.1 hj
      have hnot : ∀ e ∈ oj.after, Region.binds md e = true → e.on ≠ i := fun e he hb heq => by
        have h1 := hall e he hb
        have h0 := (mem_ready.1 hr).1
        rw [heq] at h1
        rcases Nat.lt_or_ge i listed.size with h' | h'
        · simp [h'] at h0 h1; rw [h0] at h1; cases h1
        · simp [Array.getElem?_eq_none h'] at h1
      have hnot' : ∀ e ∈ oi.after, Region.binds md e = true → e.on ≠ j := fun e he hb heq => by
        obtain ⟨_, oi', hoi', hall'⟩ := mem_ready.1 hr
        rw [hi] at hoi'
        cases hoi'
        have h1 := hall' e he hb
        rw [heq] at h1
        rcases Nat.lt_or_ge j listed.size with h' | h'
        · simp [h'] at hjun h1; rw [hjun] at h1; cases h1
        · simp [Array.getElem?_eq_none h'] at h1
      have hap := hfree j oj hoj hji hjun hnot
      obtain ⟨h1, h2, h3⟩ := Oper.apart_spec hap
      have hfree' : ∀ k ok, ops[k]? = some ok → k ≠ i → (listed.setIfInBounds j true).getD k true = false →
          (∀ e ∈ ok.after, Region.binds md e = true → e.on ≠ i) → oi.apart ops ok = true := fun k ok hk hki hun hno => by
        refine hfree k ok hk hki ?_ hno
        by_cases hjk : j = k
        · subst hjk; exact hjun
        · rw [getD_set_ne true hjk] at hun; exact hun
      have hri := ready_mono hr (Ne.symm hji)
      -- what i's own walk says of j, whatever i has yielded
      unfold mOp at H
      simp only [hi] at H
      -- j is run ahead of i: E', d: what i would have added
      have key : ∀ (Ei : (Nat → Option Value) → Nat → Option Value) (x : Value), (∀ (E : Nat → Option Value) n, n ≠ i → Ei E n = E n) → (∀ (E : Nat → Option Value) u, Ei (setE E j u) = setE (Ei E) j u) →
          wpAnyT P md ops C ys m L (fuel + 1) (listed.setIfInBounds i true) (Ei E) (a.put oi.dst x) →
          (if Region.wanted oj (yielded ops a.tmps) = true then yieldsM P md C ys E j oj a ∧ nextM (ys j) j (fun E' a' => wpAnyT P md ops C ys m L fuel ((listed.setIfInBounds j true).setIfInBounds i true) (Ei E') (a'.put oi.dst x)) E oj.dst a
           else wpAnyT P md ops C ys m L fuel ((listed.setIfInBounds j true).setIfInBounds i true) (Ei E) ((a.put oj.dst undef).put oi.dst x)) := by
        intro Ei x hEi hEs hx
        have hj2 := (hx.2 j (ready_mono hj hji)).2
        unfold mOp at hj2
        simp only [hoj] at hj2
        rw [wanted_put oj a oi.dst x h1] at hj2
        rw [Array.setIfInBounds_comm _ _ (Ne.symm hji)] at hj2
        split at hj2
        · rename_i hw
          rw [if_pos hw]
          refine ⟨yieldsM_put (execOp_put oj (fun cs b => hsel j oj cs b hoj) a oi.dst x h1).symm (fun e he hb => (hEi E _ (hnot e he hb)).symm) hj2.1, ?_⟩
          have := hj2.2
          unfold nextM at this ⊢
          cases hy : ys j with
          | det v => simp only [hy] at this ⊢; rw [← Act.put_comm a x v h2]; exact this
          | any p => simp only [hy] at this ⊢; intro u; rw [hEs, ← Act.put_comm a x u h2]; exact this u
        · rename_i hw
          rw [if_neg hw]
          rw [← Act.put_comm a x undef h2]
          exact hj2
      unfold mOp
      simp only [hoj]
      by_cases hwi : Region.wanted oi (yielded ops a.tmps) = true
      · simp only [hwi, if_true] at H
        obtain ⟨hyi, hni⟩ := H
        cases hy : ys i with
        | det x =>
          unfold nextM at hni
          simp only [hy] at hni
          have hk := key id x (fun _ _ _ => rfl) (fun _ _ => rfl) hni
          by_cases hwj : Region.wanted oj (yielded ops a.tmps) = true
          · rw [if_pos hwj] at hk ⊢
            refine ⟨hk.1, ?_⟩
            have hn := hk.2
            unfold nextM at hn ⊢
            have fin : ∀ (E' : Nat → Option Value) (u : Value), (∀ n, n ≠ j → E' n = E n) → wpAnyT P md ops C ys m L fuel ((listed.setIfInBounds j true).setIfInBounds i true) E' ((a.put oj.dst u).put oi.dst x) →
                wpAnyT P md ops C ys m L (fuel + 1) (listed.setIfInBounds j true) E' (a.put oj.dst u) := fun E' u hE' h => by
              refine ih (listed.setIfInBounds j true) E' _ invj hfree' hri ?_
              unfold mOp
              simp only [hi]
              rw [wanted_put oi a oj.dst u h3, if_pos hwi]
              refine ⟨yieldsM_put (execOp_put oi (fun cs b => hsel i oi cs b hi) a oj.dst u h3) (fun e he hb => hE' _ (hnot' e he hb)) hyi, ?_⟩
              unfold nextM
              simp only [hy]
              exact h
            cases hyj : ys j with
            | det v => simp only [hyj] at hn ⊢; exact fin _ v (fun _ _ => rfl) hn
            | any p => simp only [hyj] at hn ⊢; exact fun u => fin _ u (fun n hn => by simp [setE, hn]) (hn u)
          · rw [if_neg hwj] at hk ⊢
            refine ih (listed.setIfInBounds j true) E _ invj hfree' hri ?_
            unfold mOp
            simp only [hi]
            rw [wanted_put oi a oj.dst undef h3, if_pos hwi]
            refine ⟨yieldsM_put (execOp_put oi (fun cs b => hsel i oi cs b hi) a oj.dst undef h3) (fun _ _ _ => rfl) hyi, ?_⟩
            unfold nextM
            simp only [hy]
            exact hk
        | any p =>
          unfold nextM at hni
          simp only [hy] at hni
          have hk := fun x => key (fun E => setE E i x) x (fun E n hn => by simp [setE, hn]) (fun E u => setE_comm hji u x) (hni x)
          by_cases hwj : Region.wanted oj (yielded ops a.tmps) = true
          · simp only [hwj, if_true] at hk ⊢
            refine ⟨(hk undef).1, ?_⟩
            have hn := fun x => (hk x).2
            unfold nextM at hn ⊢
            have fin : ∀ (E' : Nat → Option Value) (u : Value), (∀ n, n ≠ j → E' n = E n) → (∀ x, wpAnyT P md ops C ys m L fuel ((listed.setIfInBounds j true).setIfInBounds i true) (setE E' i x) ((a.put oj.dst u).put oi.dst x)) →
                wpAnyT P md ops C ys m L (fuel + 1) (listed.setIfInBounds j true) E' (a.put oj.dst u) := fun E' u hE' h => by
              refine ih (listed.setIfInBounds j true) E' _ invj hfree' hri ?_
              unfold mOp
              simp only [hi]
              rw [wanted_put oi a oj.dst u h3, if_pos hwi]
              refine ⟨yieldsM_put (execOp_put oi (fun cs b => hsel i oi cs b hi) a oj.dst u h3) (fun e he hb => hE' _ (hnot' e he hb)) hyi, ?_⟩
              unfold nextM
              simp only [hy]
              exact h
            cases hyj : ys j with
            | det v => simp only [hyj] at hn ⊢; exact fin _ v (fun _ _ => rfl) hn
            | any q => simp only [hyj] at hn ⊢; exact fun u => fin _ u (fun n hn => by simp [setE, hn]) (fun x => hn x u)
          · simp only [hwj] at hk ⊢
            refine ih (listed.setIfInBounds j true) E _ invj hfree' hri ?_
            unfold mOp
            simp only [hi]
            rw [wanted_put oi a oj.dst undef h3, if_pos hwi]
            refine ⟨yieldsM_put (execOp_put oi (fun cs b => hsel i oi cs b hi) a oj.dst undef h3) (fun _ _ _ => rfl) hyi, ?_⟩
            unfold nextM
            simp only [hy]
            exact hk
      · simp only [hwi] at H
        have hk := key id undef (fun _ _ _ => rfl) (fun _ _ => rfl) H
        by_cases hwj : Region.wanted oj (yielded ops a.tmps) = true
        · rw [if_pos hwj] at hk ⊢
          refine ⟨hk.1, ?_⟩
          have hn := hk.2
          unfold nextM at hn ⊢
          have fin : ∀ (E' : Nat → Option Value) (u : Value), wpAnyT P md ops C ys m L fuel ((listed.setIfInBounds j true).setIfInBounds i true) E' ((a.put oj.dst u).put oi.dst undef) →
              wpAnyT P md ops C ys m L (fuel + 1) (listed.setIfInBounds j true) E' (a.put oj.dst u) := fun E' u h => by
            refine ih (listed.setIfInBounds j true) E' _ invj hfree' hri ?_
            unfold mOp
            simp only [hi]
            rw [wanted_put oi a oj.dst u h3, if_neg hwi]
            exact h
          cases hyj : ys j with
          | det v => simp only [hyj] at hn ⊢; exact fin _ v hn
          | any q => simp only [hyj] at hn ⊢; exact fun u => fin _ u (hn u)
        · rw [if_neg hwj] at hk ⊢
          refine ih (listed.setIfInBounds j true) E _ invj hfree' hri ?_
          unfold mOp
          simp only [hi]
          rw [wanted_put oi a oj.dst undef h3, if_neg hwi]
          exact hk


theorem wpAnyT_lex {m g : Nat} {Lq : Act → World → Prop} (hsel : Region.noSelect ops = true) (hs : Region.sinkB md ops m = true) (hc : Region.chainB md ops m = true) (hn : m < ops.size) :
    ∀ (l : List Oper) (k : Nat) (listed : Array Bool) (E : Nat → Option Value) (a : Act), (∀ j, j < l.length → l[j]? = ops[k + j]?) → k + l.length = m → HeadInv md ops m listed →
    Region.lexHead md ops g l.length k listed = true → wpM P md ops C ys Lq l k E a →
    wpAnyT P md ops C ys m (fun listed' a' w' => Region.seqB md ops g m listed' = true ∧ Lq a' w') l.length listed E a
  | [], k, listed, E, a, _, hk, _, hB, h => by
    have : k = m := by simpa using hk
    subst this
    have hB' : Region.seqB md ops g k listed = true := by simpa [Region.lexHead] using hB
    exact ⟨seqB_ready hB', fun w hC hE => ⟨hB', h w hC hE⟩⟩
  | o :: l, k, listed, E, a, hl, hk, inv, hB, h => by
    have h0 : ops[k]? = some o := by simpa using (hl 0 (by simp)).symm
    simp only [List.length_cons, Region.lexHead, Bool.and_eq_true] at hB
    obtain ⟨⟨hr, hf⟩, hB'⟩ := hB
    have hkn : k < m := by simp only [List.length_cons] at hk; omega
    have hr' : k ∈ Region.ready md ops listed := by simpa using hr
    have hst : mOp P md ops C ys k (wpM P md ops C ys Lq l (k + 1)) E a := by unfold mOp; simp only [h0]; exact h
    exact wpAnyT_first hs hc hn hkn h0 (Region.noSelect_spec hsel) l.length listed E a inv (Region.free_spec h0 hf) hr'
      (mOp_mono (fun E a h => wpAnyT_lex hsel hs hc hn l (k + 1) _ E a (fun j hj => by have := hl (j + 1) (by simp; omega); simpa [Nat.add_assoc, Nat.add_comm 1 j] using this) (by simp only [List.length_cons] at hk; omega) (inv.set hr' hkn) hB' h) hst)

theorem wpAnyIn_of_seq {F : Fence} {n : Nat} {Q' : Exit → Act → World → Prop} : ∀ (l : List Oper) (k : Nat) (listed : Array Bool) (a : Act) (w : World), (∀ j, l[j]? = ops[k + j]?) →
    Region.seqB md ops l.length k listed = true → wpListIn F n P ops Q' l a w → wpAnyIn F n P md ops Q' l.length listed a w
  | [], _, _, _, _, _, hB, h => ⟨by simpa [Region.seqB] using hB, h⟩
  | o :: l, k, listed, a, w, hl, hB, h => by
    have h0 : ops[k]? = some o := by simpa using (hl 0).symm
    simp only [List.length_cons, Region.seqB, Bool.and_eq_true, decide_eq_true_eq] at hB
    obtain ⟨hr, hB'⟩ := hB
    refine ⟨fun h1 => (by rw [hr] at h1; cases h1), fun i hi => ?_⟩
    rw [hr] at hi
    obtain rfl : i = k := by simpa using hi
    have hw : wpOpIn F n P ops Q' i (wpListIn F n P ops Q' l) a w := by unfold wpOpIn; simp only [h0]; exact h
    exact wpOpIn_mono (fun a' w' h' => wpAnyIn_of_seq l (i + 1) _ a' w' (fun j => by have := hl (j + 1); simpa [Nat.add_assoc, Nat.add_comm 1 j] using this) hB' h') hw

/-- The first m operations in every order, the rest behind them. -/
theorem wpIn_region_mono_tail {F : Fence} {n : Nat} (m : Nat) {id : Nat} {Q : Exit → Act → World → Prop} {a : Act} {w : World} {l : List Oper} (yl : List Yld) (hf : ∀ f, F.fn f) (hd : F.depth = none) (hcall : ∀ (k : Nat) (f : Nat) args w R, Calls P f args w R → CallsIn F k P f args w R)
    (hm : P.follows .mixedOrders = true) (hB : (noDefer l.toArray && Region.lexTailB .any l.toArray m) = true) (hys : ∀ y, y ∈ yl → y.stable)
    (h : wpM P .any l.toArray (Ext w) (fun i => yl.getD i (.any fun _ _ => True)) (fun a' w' => wpListIn F n P l.toArray Q (l.drop m) a' w') (l.take m) 0 (fun _ => none) a) : (Code.region id l.toArray true).wpIn F n P Q a w := by
  simp only [Region.lexTailB, Bool.and_eq_true, decide_eq_true_eq] at hB
  obtain ⟨hdf, ⟨⟨⟨hsel, hn⟩, hs⟩, hc⟩, hlex⟩ := hB
  have hn' : m < l.length := by simpa using hn
  have htl : (l.take m).length = m := by simp; omega
  have hdl : (l.drop m).length = l.toArray.size - m := by simp
  have inv0 : HeadInv .any l.toArray m (Array.replicate l.toArray.size false) :=
    ⟨by simp, fun j oj _ hl => (by rw [getD_replicate_false] at hl; cases hl), fun t _ ht => getD_in (by simpa using ht) (getD_replicate_false _ _)⟩
  have H := wpAnyT_lex (md := .any) (g := l.toArray.size - m) hsel hs hc hn (l.take m) 0 _ _ a (fun j hj => by
    have hj' : j < m := by rw [htl] at hj; exact hj
    simp [hj']) (by simpa using htl) inv0 (by rw [htl]; exact hlex) h
  refine wpIn_region_any hm ?_
  have hyl : ∀ i, (yl.getD i (.any fun _ _ => True)).stable := by
    intro i
    by_cases hi : i < yl.length
    · simp only [List.getD, List.getElem?_eq_getElem hi, Option.getD_some]
      exact hys _ (List.getElem_mem hi)
    · simp only [List.getD, List.getElem?_eq_none (Nat.le_of_not_lt hi), Option.getD_none]
      exact fun _ _ _ _ _ => trivial
  have := wpAnyIn_of_T (n := n) (Q' := Q) (g := l.toArray.size - m) hf hd hcall hdf (fun _ _ h1 h2 => Ext.trans h1 h2) hyl (fun listed a' w' _ hL => by
    have := wpAnyIn_of_seq (md := .any) (Q' := Q) (F := F) (n := n) (l.drop m) m listed a' w' (fun j => by simp [List.getElem?_drop]) (by rw [hdl]; exact hL.1) hL.2
    rwa [hdl] at this) _ _ (fun _ => none) _ { w with drawn := w.drawn + 1 } (Below.refl _ _ |>.drew) (fun i v hv => by cases hv) H
  rw [htl, show m + (l.toArray.size - m) = l.toArray.size by omega] at this
  exact this
end
end Go.Proofs.YtckoecmdaefoiaaDoor
