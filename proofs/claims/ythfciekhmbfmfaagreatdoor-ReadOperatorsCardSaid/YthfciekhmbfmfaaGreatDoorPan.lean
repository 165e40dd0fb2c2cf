/- As XPhasesL, but a call may panic: then the region ends. As XPhases; what is late comes behind the second special operation: it need hold, and stay, in the last phase alone. Two special operations one behind the other, and a relation for each phase: a call that turns memory, and the append of what it hands back. No program is named here. -/
import Derived.Test.YthfciekhmbfmfaaGreatDoorMono
import Derived.Test.YthfciekhmbfmfaaGreatDoorMonoX
namespace Go.Proofs.YthfciekhmbfmfaaGreatDoor.Pan
open Go Go.RowKit Go.Proofs.YthfciekhmbfmfaaGreatDoor

def uponX (P : Program) (X : List PanicEntry → World → Prop) (q : Value → World → Prop) : Result Next → Prop
  | .ok (.value u) w' => q u w'
  | .ok .skip w' => q undef w'
  | .ok (.enter f args) w' => Calls P f args w' (fun e w'' => (∃ v, e = .returned v ∧ q v w'') ∨ ∃ ch, e = .panicked ch ∧ X ch w'')
  | _ => False

section
variable {P : Program} {ops : Array Oper} {md : Region.Mode} {X : List PanicEntry → World → Prop} {Rl : Nat → World → World → Prop} {C : Nat → World → Prop} {sp sq : Nat} {late early : Nat → Bool} {ys : Nat → Yld}

/-- Operation k: the special one takes the world from the first phase to the second; the others leave the phase. -/
def yieldsR (P : Program) (md : Region.Mode) (X : List PanicEntry → World → Prop) (Rl : Nat → World → World → Prop) (C : Nat → World → Prop) (sp sq : Nat) (late early : Nat → Bool) (ys : Nat → Yld) (E : Nat → Option Value) (k : Nat) (o : Oper) (a : Act) : Prop :=
  if k = sp then ∀ w, C 0 w → deps md ys o E w → uponX P X (fun u w' => Rl 0 w w' ∧ C 1 w' ∧ (ys k).says u w') ((execOp a.eval o).run P w)
  else if k = sq then ∀ w, C 1 w → deps md ys o E w → uponX P X (fun u w' => Rl 1 w w' ∧ C 2 w' ∧ (ys k).says u w') ((execOp a.eval o).run P w)
  else if late k = true then ∀ w, C 2 w → deps md ys o E w → uponX P X (fun u w' => Rl 2 w w' ∧ C 2 w' ∧ (ys k).says u w') ((execOp a.eval o).run P w)
  else if early k = true then ∀ b w, b < 2 → C b w → deps md ys o E w → uponX P X (fun u w' => Rl b w w' ∧ C b w' ∧ (ys k).says u w') ((execOp a.eval o).run P w)
  else ∀ b w, C b w → deps md ys o E w → uponX P X (fun u w' => Rl b w w' ∧ C b w' ∧ (ys k).says u w') ((execOp a.eval o).run P w)

def rOp (P : Program) (md : Region.Mode) (ops : Array Oper) (X : List PanicEntry → World → Prop) (Rl : Nat → World → World → Prop) (C : Nat → World → Prop) (sp sq : Nat) (late early : Nat → Bool) (ys : Nat → Yld) (k : Nat) (K : (Nat → Option Value) → Act → Prop) (E : Nat → Option Value) (a : Act) : Prop :=
  match ops[k]? with
  | none => K E a
  | some o => if Region.wanted o (yielded ops a.tmps) then yieldsR P md X Rl C sp sq late early ys E k o a ∧ nextM (ys k) k K E o.dst a else K E (a.put o.dst undef)

def wpR (P : Program) (md : Region.Mode) (ops : Array Oper) (X : List PanicEntry → World → Prop) (Rl : Nat → World → World → Prop) (C : Nat → World → Prop) (sp sq : Nat) (late early : Nat → Bool) (ys : Nat → Yld) (Q : Act → World → Prop) : List Oper → Nat → (Nat → Option Value) → Act → Prop
  | [], _, E, a => ∀ w, C 2 w → (∀ i, Known ys E i w) → Q a w
  | o :: rest, k, E, a => if Region.wanted o (yielded ops a.tmps) then yieldsR P md X Rl C sp sq late early ys E k o a ∧ nextM (ys k) k (wpR P md ops X Rl C sp sq late early ys Q rest (k + 1)) E o.dst a else wpR P md ops X Rl C sp sq late early ys Q rest (k + 1) E (a.put o.dst undef)

def wpAnyR (P : Program) (md : Region.Mode) (ops : Array Oper) (X : List PanicEntry → World → Prop) (Rl : Nat → World → World → Prop) (C : Nat → World → Prop) (sp sq : Nat) (late early : Nat → Bool) (ys : Nat → Yld) (m : Nat) (L : Array Bool → Act → World → Prop) : Nat → Array Bool → (Nat → Option Value) → Act → Prop
  | 0, listed, E, a => (∀ k, k ∈ Region.ready md ops listed → m ≤ k) ∧ listed.getD sq false = true ∧ ∀ w, C 2 w → (∀ i, Known ys E i w) → L listed a w
  | f + 1, listed, E, a => Region.ready md ops listed ≠ [] ∧ ∀ i ∈ Region.ready md ops listed, i < m ∧ rOp P md ops X Rl C sp sq late early ys i (wpAnyR P md ops X Rl C sp sq late early ys m L f (listed.setIfInBounds i true)) E a

theorem rOp_mono {k : Nat} {E : Nat → Option Value} {a : Act} {K K' : (Nat → Option Value) → Act → Prop} (h : ∀ E a, K E a → K' E a) (hh : rOp P md ops X Rl C sp sq late early ys k K E a) : rOp P md ops X Rl C sp sq late early ys k K' E a := by
  unfold rOp at *
  split
  · exact h _ _ (by simpa [*] using hh)
  · rename_i o ho
    simp only [ho] at hh
    split
    · rename_i hw; simp only [hw, if_true] at hh; exact ⟨hh.1, nextM_mono h hh.2⟩
    · rename_i hw; simp only [hw] at hh; exact h _ _ hh

/-- What is late waits for the second special operation, by others that are late. -/
def lateB (md : Region.Mode) (ops : Array Oper) (late : Nat → Bool) (sq : Nat) : Bool := (List.range ops.size).all fun k => !late k || (k == sq || (List.range k).any fun j => late j && Region.waitsFor md ops k j)
theorem late_listed {listed : Array Bool} (h : lateB md ops late sq = true) (hcl : ∀ j oj, ops[j]? = some oj → listed.getD j false = true → ∀ e ∈ oj.after, Region.binds md e = true → listed.getD e.on false = true) :
    ∀ k, k < ops.size → late k = true → listed.getD k false = true → listed.getD sq false = true := by
  intro k
  induction k using Nat.strongRecOn with
  | ind k ih =>
    intro hk hl hL
    have h1 := List.all_eq_true.1 h k (List.mem_range.2 hk)
    rw [hl] at h1
    simp only [Bool.not_true, Bool.false_or, Bool.or_eq_true, beq_iff_eq] at h1
    rcases h1 with e | h1
    · rw [← e]; exact hL
    · obtain ⟨j, hj, h2⟩ := List.any_eq_true.1 h1
      rw [Bool.and_eq_true] at h2
      have hjk := List.mem_range.1 hj
      obtain ⟨ok, hok, e, he, hb, hon⟩ := Region.waitsFor_spec h2.2
      exact ih j hjk (by omega) h2.1 (by rw [← hon]; exact hcl k ok hok hL e he hb)
/-- What is early comes ahead of the second special operation, which waits for it. -/
def earlyB (md : Region.Mode) (ops : Array Oper) (early : Nat → Bool) (sq : Nat) : Bool := (List.range ops.size).all fun k => !early k || Region.waitsFor md ops sq k
/-- What is late comes when the second special operation has. -/
theorem late_ready {listed : Array Bool} {i : Nat} {oi : Oper} (h : lateB md ops late sq = true) (hcl : ∀ j oj, ops[j]? = some oj → listed.getD j false = true → ∀ e ∈ oj.after, Region.binds md e = true → listed.getD e.on false = true)
    (hoi : ops[i]? = some oi) (hne : i ≠ sq) (hl : late i = true) (hall : ∀ e ∈ oi.after, Region.binds md e = true → listed.getD e.on false = true) : listed.getD sq false = true := by
  have hi := (Array.getElem?_eq_some_iff.1 hoi).1
  have h1 := List.all_eq_true.1 h i (List.mem_range.2 hi)
  rw [hl] at h1
  simp only [Bool.not_true, Bool.false_or, Bool.or_eq_true, beq_iff_eq] at h1
  rcases h1 with e | h1
  · exact absurd e hne
  · obtain ⟨j, hj, h2⟩ := List.any_eq_true.1 h1
    rw [Bool.and_eq_true] at h2
    have hji := List.mem_range.1 hj
    obtain ⟨ok, hok, e, he, hb, hon⟩ := Region.waitsFor_spec h2.2
    rw [hoi] at hok
    cases hok
    exact late_listed h hcl j (by omega) h2.1 (by rw [← hon]; exact hall e he hb)
theorem Known.extL {E : Nat → Option Value} {b : Nat} {w w' : World} (hy : ∀ i b, (late i = true → b = 2) → (ys i).stableP (Rl b)) (hb : ∀ k v, E k = some v → late k = true → b = 2) (he : Rl b w w') (h : ∀ i, Known ys E i w) : ∀ i, Known ys E i w' := fun i v hv => by
  have h1 := h i v hv
  have h2 := hy i b (fun e => hb i v hv e)
  cases hyi : ys i with
  | det x => rw [hyi] at h1; exact h1
  | any p => rw [hyi] at h1 h2; exact h2 _ _ _ he h1

theorem yieldsR_put {k : Nat} {o : Oper} {E E' : Nat → Option Value} {a a' : Act} (he : execOp a'.eval o = execOp a.eval o) (hE : ∀ e, e ∈ o.after → Region.binds md e = true → E' e.on = E e.on)
    (h : yieldsR P md X Rl C sp sq late early ys E k o a) : yieldsR P md X Rl C sp sq late early ys E' k o a' := by
  unfold yieldsR at *
  rw [he]
  have hd' : ∀ w, deps md ys o E' w → deps md ys o E w := fun w hd e h1 h2 v hv => hd e h1 h2 v (by rw [hE e h1 h2]; exact hv)
  split
  · rename_i hk; rw [if_pos hk] at h; exact fun w hC hd => h w hC (hd' w hd)
  · rename_i hk
    rw [if_neg hk] at h
    split
    · rename_i hk2; rw [if_pos hk2] at h; exact fun w hC hd => h w hC (hd' w hd)
    · rename_i hk2
      rw [if_neg hk2] at h
      split
      · rename_i hk3; rw [if_pos hk3] at h; exact fun w hC hd => h w hC (hd' w hd)
      · rename_i hk3
        rw [if_neg hk3] at h
        split
        · rename_i hk4; rw [if_pos hk4] at h; exact fun b w hb hC hd => h b w hb hC (hd' w hd)
        · rename_i hk4; rw [if_neg hk4] at h; exact fun b w hC hd => h b w hC (hd' w hd)

theorem wpAnyIn_of_R {F : Fence} {n m g : Nat} {L : Array Bool → Act → World → Prop} {Q' : Exit → Act → World → Prop} (hf : ∀ f, F.fn f) (hd : F.depth = none) (hcall : ∀ (k : Nat) (f : Nat) args w R, Calls P f args w R → CallsIn F k P f args w R) (hdf : noDefer ops = true)
    (hsg : ∀ o, ops[sp]? = some o → o.guard = none) (hsg2 : ∀ o, ops[sq]? = some o → o.guard = none) (hne : sp ≠ sq) (hw : Region.waitsFor md ops sq sp = true) (hlt : lateB md ops late sq = true) (her : earlyB md ops early sq = true) (hys : ∀ i b, (late i = true → b = 2) → (ys i).stableP (Rl b)) (hL : ∀ listed a w, C 2 w → L listed a w → wpAnyIn F n P md ops Q' g listed a w) (D : List Deferred) (hX : ∀ ch a w, a.defers = D → X ch w → Q' (.panic ch) a w) :
    ∀ (fuel : Nat) (listed : Array Bool) (E : Nat → Option Value) (a : Act) (w : World), a.defers = D → (listed.getD sq false = true → listed.getD sp false = true) → (∀ k v, E k = some v → listed.getD k false = true ∧ k < ops.size) → (∀ j oj, ops[j]? = some oj → listed.getD j false = true → ∀ e ∈ oj.after, Region.binds md e = true → listed.getD e.on false = true) → C (phase sp sq listed) w → (∀ i, Known ys E i w) → wpAnyR P md ops X Rl C sp sq late early ys m L fuel listed E a → wpAnyIn F n P md ops Q' (fuel + g) listed a w := by
  intro fuel
  induction fuel with
  | zero =>
    intro listed E a w _ _ _ _ hC hE h
    rw [Nat.zero_add]
    rw [phase, h.2.1] at hC
    exact hL _ _ _ hC (h.2.2 w hC hE)
  | succ fuel ih =>
    intro listed E a w hD hI hE2 hcl hC hE h
    have hlq : ∀ k v, E k = some v → late k = true → listed.getD sq false = true := fun k v hv hl => late_listed hlt hcl k (hE2 k v hv).2 hl (hE2 k v hv).1
    rw [show fuel + 1 + g = (fuel + g) + 1 by omega]
    refine ⟨fun h0 => absurd h0 h.1, fun i hi => ?_⟩
    have h1 := (h.2 i hi).2
    obtain ⟨hun, oi, hoi, hall⟩ := mem_ready.1 hi
    have hself := getD_set_self hun
    have hset : ∀ k, i ≠ k → (listed.setIfInBounds i true).getD k false = listed.getD k false := fun k hne => getD_set_ne false hne
    have hI' : (listed.setIfInBounds i true).getD sq false = true → (listed.setIfInBounds i true).getD sp false = true := by
      intro h2
      by_cases e1 : i = sp
      · rw [← e1]; exact hself
      · rw [hset sp e1]
        by_cases e2 : i = sq
        · subst e2
          obtain ⟨oj, hoj, e, he, hb, hon⟩ := Region.waitsFor_spec hw
          rw [hoi] at hoj
          cases hoj
          rw [← hon]
          exact hall e he hb
        · rw [hset sq e2] at h2; exact hI h2
    have hin : i < ops.size := (Array.getElem?_eq_some_iff.1 hoi).1
    have hcl' : ∀ j oj, ops[j]? = some oj → (listed.setIfInBounds i true).getD j false = true → ∀ e ∈ oj.after, Region.binds md e = true → (listed.setIfInBounds i true).getD e.on false = true := fun j oj hoj hj e he hb => by
      by_cases e1 : i = e.on
      · rw [← e1]; exact hself
      · rw [hset e.on e1]
        by_cases e2 : i = j
        · subst e2
          rw [hoi] at hoj
          cases hoj
          exact hall e he hb
        · rw [hset j e2] at hj
          exact hcl j oj hoj hj e he hb
    have hgo : ∀ (b : Nat) (o : Oper) (v : Value) (w' : World), (∀ k v, E k = some v → late k = true → b = 2) → Rl b w w' → C (phase sp sq (listed.setIfInBounds i true)) w' → (ys i).says v w' → nextM (ys i) i (wpAnyR P md ops X Rl C sp sq late early ys m L fuel (listed.setIfInBounds i true)) E o.dst a → wpAnyIn F n P md ops Q' (fuel + g) (listed.setIfInBounds i true) (a.put o.dst v) w' := by
      intro b o v w' hb he hC' hs hn
      have hE2' : ∀ k v, E k = some v → (listed.setIfInBounds i true).getD k false = true ∧ k < ops.size := fun k v hv => by
        refine ⟨?_, (hE2 k v hv).2⟩
        by_cases e : i = k
        · rw [← e]; exact hself
        · rw [hset k e]; exact (hE2 k v hv).1
      unfold nextM at hn
      cases hy : ys i with
      | det u =>
        rw [hy] at hs hn
        obtain rfl : v = u := hs
        exact ih _ _ _ _ ((PanM.put_defers _ _ _).trans hD) hI' hE2' hcl' hC' (Known.extL hys hb he hE) hn
      | any p =>
        have hs' := hs
        rw [hy] at hn
        refine ih _ _ _ _ ((PanM.put_defers _ _ _).trans hD) hI' (fun k u hu => ?_) hcl' hC' (Known.set (Known.extL hys hb he hE) hs') (hn v)
        by_cases e : i = k
        · subst e; exact ⟨hself, hin⟩
        · rw [setE, if_neg (fun h => e h.symm)] at hu; exact hE2' k u hu
    have hup : ∀ (o : Oper) (b b' : Nat), (∀ k v, E k = some v → late k = true → b = 2) → uponX P X (fun u w' => Rl b w w' ∧ C b' w' ∧ (ys i).says u w') ((execOp a.eval o).run P w) → b' = phase sp sq (listed.setIfInBounds i true) → (∀ c, o.op ≠ .defer c) →
        nextM (ys i) i (wpAnyR P md ops X Rl C sp sq late early ys m L fuel (listed.setIfInBounds i true)) E o.dst a → o.wpIn F n P a w (wpAnyIn F n P md ops Q' (fuel + g) (listed.setIfInBounds i true)) Q' := by
      intro o b b' hbb h3 hb hnd hn
      subst hb
      refine ⟨fun f _ => hf f, ?_⟩
      rw [Oper.semAt_plain F _ _ hnd]
      generalize (execOp a.eval o).run P w = r at *
      cases r with
      | ok x w' =>
        cases x <;> simp only [uponX] at h3 <;> simp only [Oper.uponIn]
        case value u => exact hgo b o u w' hbb h3.1 h3.2.1 h3.2.2 hn
        case skip => exact hgo b o undef w' hbb h3.1 h3.2.1 h3.2.2 hn
        case enter f args =>
          refine ⟨fun h => (by rw [hd] at h; cases h), (hcall _ _ _ _ _ h3).mono ?_⟩
          rintro e w'' (⟨v, rfl, he', hC', hs⟩ | ⟨ch, rfl, hx⟩)
          · exact hgo b o v w'' hbb he' hC' hs hn
          · exact hX ch a w'' hD hx
      | halt x w' => simp only [uponX] at h3
    have hph : i ≠ sp → i ≠ sq → phase sp sq (listed.setIfInBounds i true) = phase sp sq listed := fun e1 e2 => by rw [phase, phase, hset sp e1, hset sq e2]
    unfold rOp at h1
    unfold wpOpIn
    simp only [hoi] at h1 ⊢
    by_cases hwt : Region.wanted oi (yielded ops a.tmps) = true
    · simp only [hwt, if_true] at h1 ⊢
      obtain ⟨hy, hn⟩ := h1
      unfold yieldsR at hy
      by_cases hk : i = sp
      · subst hk
        rw [if_pos rfl] at hy
        have h0 : listed.getD i false = false := getD_both hun
        have h2 : listed.getD sq false = false := by
          cases h : listed.getD sq false with
          | false => rfl
          | true => rw [hI h] at h0; cases h0
        have hp0 : phase i sq listed = 0 := by rw [phase, h2, h0]; rfl
        rw [hp0] at hC
        refine hup oi 0 1 (fun k v hv hl => by rw [hlq k v hv hl] at h2; cases h2) (hy w hC (fun e _ _ => hE e.on)) ?_ (fun c => noDefer_spec hdf hoi c) hn
        rw [phase, hset sq hne, h2, hself]
        rfl
      · rw [if_neg hk] at hy
        by_cases hk2 : i = sq
        · subst hk2
          rw [if_pos rfl] at hy
          have h0 : listed.getD i false = false := getD_both hun
          have h1' : listed.getD sp false = true := by
            have := hI' hself
            rwa [hset sp hk] at this
          have hp1 : phase sp i listed = 1 := by rw [phase, h0, h1']; rfl
          rw [hp1] at hC
          refine hup oi 1 2 (fun k v hv hl => by rw [hlq k v hv hl] at h0; cases h0) (hy w hC (fun e _ _ => hE e.on)) ?_ (fun c => noDefer_spec hdf hoi c) hn
          rw [phase, hself]
          rfl
        · rw [if_neg hk2] at hy
          by_cases hk3 : late i = true
          · rw [if_pos hk3] at hy
            have hq := late_ready hlt hcl hoi hk2 hk3 hall
            have hp2 : phase sp sq listed = 2 := by rw [phase, hq]; rfl
            rw [hp2] at hC
            exact hup oi 2 2 (fun _ _ _ _ => rfl) (hy w hC (fun e _ _ => hE e.on)) (by rw [hph hk hk2, hp2]) (fun c => noDefer_spec hdf hoi c) hn
          · rw [if_neg hk3] at hy
            by_cases hk4 : early i = true
            · rw [if_pos hk4] at hy
              have hq : listed.getD sq false = false := by
                cases hq : listed.getD sq false with
                | false => rfl
                | true =>
                  have h1 := List.all_eq_true.1 her i (List.mem_range.2 hin)
                  rw [hk4] at h1
                  simp only [Bool.not_true, Bool.false_or] at h1
                  obtain ⟨oq, hoq, e, he, hb, hon⟩ := Region.waitsFor_spec h1
                  have h2 := hcl sq oq hoq hq e he hb
                  rw [hon, getD_both hun] at h2
                  cases h2
              have hp : phase sp sq listed < 2 := by rw [phase, hq]; simp only [Bool.false_eq_true, if_false]; split <;> omega
              exact hup oi _ _ (fun k v hv hl => by rw [phase, hlq k v hv hl]; rfl) (hy _ w hp hC (fun e _ _ => hE e.on)) (hph hk hk2).symm (fun c => noDefer_spec hdf hoi c) hn
            rw [if_neg hk4] at hy
            exact hup oi _ _ (fun k v hv hl => by rw [phase, hlq k v hv hl]; rfl) (hy _ w hC (fun e _ _ => hE e.on)) (hph hk hk2).symm (fun c => noDefer_spec hdf hoi c) hn
    · have hwf : Region.wanted oi (yielded ops a.tmps) = false := by simpa using hwt
      simp only [hwf] at h1 ⊢
      have hk : i ≠ sp := fun e => by
        subst e
        rw [Region.wanted, hsg oi hoi] at hwf
        cases hwf
      have hk2 : i ≠ sq := fun e => by
        subst e
        rw [Region.wanted, hsg2 oi hoi] at hwf
        cases hwf
      refine ⟨fun f _ => hf f, ih _ _ _ _ ((PanM.put_defers _ _ _).trans hD) hI' (fun k v hv => by
        refine ⟨?_, (hE2 k v hv).2⟩
        by_cases e : i = k
        · rw [← e]; exact hself
        · rw [hset k e]; exact (hE2 k v hv).1) hcl' ?_ hE h1⟩
      rw [hph hk hk2]
      exact hC

theorem wpAnyR_first {m : Nat} {L : Array Bool → Act → World → Prop} {i : Nat} {oi : Oper} (htw : ∀ listed, HeadInv md ops m listed → ∀ i, i < m → listed.getD i true = false → ∀ t, m ≤ t → t ∉ Region.ready md ops listed) (hin : i < m) (hi : ops[i]? = some oi) (hsel : ∀ (j : Nat) (o : Oper) cs b, ops[j]? = some o → o.op ≠ .select cs b) :
    ∀ (fuel : Nat) (listed : Array Bool) (E : Nat → Option Value) (a : Act), HeadInv md ops m listed →
      (∀ j oj, ops[j]? = some oj → j ≠ i → listed.getD j true = false → (∀ e ∈ oj.after, Region.binds md e = true → e.on ≠ i) → oi.apart ops oj = true) →
      i ∈ Region.ready md ops listed → rOp P md ops X Rl C sp sq late early ys i (wpAnyR P md ops X Rl C sp sq late early ys m L fuel (listed.setIfInBounds i true)) E a → wpAnyR P md ops X Rl C sp sq late early ys m L (fuel + 1) listed E a := by
  intro fuel
  induction fuel with
  | zero =>
    intro listed E a inv _ hr H
    have hun := (mem_ready.1 hr).1
    refine ⟨fun h => (by rw [h] at hr; cases hr), fun j hj => ?_⟩
    have hjn : j < m := by
      rcases Nat.lt_or_ge j m with h | h
      · exact h
      · exact absurd hj (htw _ inv i hin hun j h)
    refine ⟨hjn, ?_⟩
    by_cases hji : j = i
    · subst hji; exact H
    · exfalso
      have hrj := ready_mono hj hji
      have hall : ∀ k, k ∈ Region.ready md ops (listed.setIfInBounds i true) → m ≤ k := by
        unfold rOp at H
        simp only [hi] at H
        split at H
        · have := H.2
          unfold nextM at this
          split at this
          · exact this.1
          · exact (this undef).1
        · exact H.1
      have := hall j hrj
      omega
  | succ fuel ih =>
    intro listed E a inv hfree hr H
    have hun := (mem_ready.1 hr).1
    refine ⟨fun h => (by rw [h] at hr; cases hr), fun j hj => ?_⟩
    have hjn : j < m := by
      rcases Nat.lt_or_ge j m with h | h
      · exact h
      · exact absurd hj (htw _ inv i hin hun j h)
    refine ⟨hjn, ?_⟩
    by_cases hji : j = i
    · subst hji; exact H
    · have invj := inv.set hj hjn
      obtain ⟨hjun, oj, hoj, hall⟩ := mem_ready.1 hj
      have hnot : ∀ e ∈ oj.after, Region.binds md e = true → e.on ≠ i := fun e he hb heq => by
        have h1 := hall e he hb
        have h0 := (mem_ready.1 hr).1
        rw [heq] at h1
        rcases Nat.lt_or_ge i listed.size with h' | h'
        · simp [h'] at h0 h1; rw [h0] at h1; cases h1
        · simp [Array.getElem?_eq_none h'] at h1
      have hnot' : ∀ e ∈ oi.after, Region.binds md e = true → e.on ≠ j := fun e he hb heq => by
        obtain ⟨_, oi', hoi', hall'⟩ := mem_ready.1 hr
        rw [hi] at hoi'
        cases hoi'
        have h1 := hall' e he hb
        rw [heq] at h1
        rcases Nat.lt_or_ge j listed.size with h' | h'
        · simp [h'] at hjun h1; rw [hjun] at h1; cases h1
        · simp [Array.getElem?_eq_none h'] at h1
      have hap := hfree j oj hoj hji hjun hnot
      obtain ⟨h1, h2, h3⟩ := Oper.apart_spec hap
      have hfree' : ∀ k ok, ops[k]? = some ok → k ≠ i → (listed.setIfInBounds j true).getD k true = false →
          (∀ e ∈ ok.after, Region.binds md e = true → e.on ≠ i) → oi.apart ops ok = true := fun k ok hk hki hun hno => by
        refine hfree k ok hk hki ?_ hno
        by_cases hjk : j = k
        · subst hjk; exact hjun
        · rw [getD_set_ne true hjk] at hun; exact hun
      have hri := ready_mono hr (Ne.symm hji)
      -- what i's own walk says of j, whatever i has yielded
      unfold rOp at H
      simp only [hi] at H
      -- j is run ahead of i: E', d: what i would have added
      have key : ∀ (Ei : (Nat → Option Value) → Nat → Option Value) (x : Value), (∀ (E : Nat → Option Value) n, n ≠ i → Ei E n = E n) → (∀ (E : Nat → Option Value) u, Ei (setE E j u) = setE (Ei E) j u) →
          wpAnyR P md ops X Rl C sp sq late early ys m L (fuel + 1) (listed.setIfInBounds i true) (Ei E) (a.put oi.dst x) →
          (if Region.wanted oj (yielded ops a.tmps) = true then yieldsR P md X Rl C sp sq late early ys E j oj a ∧ nextM (ys j) j (fun E' a' => wpAnyR P md ops X Rl C sp sq late early ys m L fuel ((listed.setIfInBounds j true).setIfInBounds i true) (Ei E') (a'.put oi.dst x)) E oj.dst a
           else wpAnyR P md ops X Rl C sp sq late early ys m L fuel ((listed.setIfInBounds j true).setIfInBounds i true) (Ei E) ((a.put oj.dst undef).put oi.dst x)) := by
        intro Ei x hEi hEs hx
        have hj2 := (hx.2 j (ready_mono hj hji)).2
        unfold rOp at hj2
        simp only [hoj] at hj2
        rw [wanted_put oj a oi.dst x h1] at hj2
        rw [Array.setIfInBounds_comm _ _ (Ne.symm hji)] at hj2
        split at hj2
        · rename_i hw
          rw [if_pos hw]
          refine ⟨yieldsR_put (execOp_put oj (fun cs b => hsel j oj cs b hoj) a oi.dst x h1).symm (fun e he hb => (hEi E _ (hnot e he hb)).symm) hj2.1, ?_⟩
          have := hj2.2
          unfold nextM at this ⊢
          cases hy : ys j with
          | det v => simp only [hy] at this ⊢; rw [← Act.put_comm a x v h2]; exact this
          | any p => simp only [hy] at this ⊢; intro u; rw [hEs, ← Act.put_comm a x u h2]; exact this u
        · rename_i hw
          rw [if_neg hw]
          rw [← Act.put_comm a x undef h2]
          exact hj2
      unfold rOp
      simp only [hoj]
      by_cases hwi : Region.wanted oi (yielded ops a.tmps) = true
      · simp only [hwi, if_true] at H
        obtain ⟨hyi, hni⟩ := H
        cases hy : ys i with
        | det x =>
          unfold nextM at hni
          simp only [hy] at hni
          have hk := key id x (fun _ _ _ => rfl) (fun _ _ => rfl) hni
          by_cases hwj : Region.wanted oj (yielded ops a.tmps) = true
          · rw [if_pos hwj] at hk ⊢
            refine ⟨hk.1, ?_⟩
            have hn := hk.2
            unfold nextM at hn ⊢
            have fin : ∀ (E' : Nat → Option Value) (u : Value), (∀ n, n ≠ j → E' n = E n) → wpAnyR P md ops X Rl C sp sq late early ys m L fuel ((listed.setIfInBounds j true).setIfInBounds i true) E' ((a.put oj.dst u).put oi.dst x) →
                wpAnyR P md ops X Rl C sp sq late early ys m L (fuel + 1) (listed.setIfInBounds j true) E' (a.put oj.dst u) := fun E' u hE' h => by
              refine ih (listed.setIfInBounds j true) E' _ invj hfree' hri ?_
              unfold rOp
              simp only [hi]
              rw [wanted_put oi a oj.dst u h3, if_pos hwi]
              refine ⟨yieldsR_put (execOp_put oi (fun cs b => hsel i oi cs b hi) a oj.dst u h3) (fun e he hb => hE' _ (hnot' e he hb)) hyi, ?_⟩
              unfold nextM
              simp only [hy]
              exact h
            cases hyj : ys j with
            | det v => simp only [hyj] at hn ⊢; exact fin _ v (fun _ _ => rfl) hn
            | any p => simp only [hyj] at hn ⊢; exact fun u => fin _ u (fun n hn => by simp [setE, hn]) (hn u)
          · rw [if_neg hwj] at hk ⊢
            refine ih (listed.setIfInBounds j true) E _ invj hfree' hri ?_
            unfold rOp
            simp only [hi]
            rw [wanted_put oi a oj.dst undef h3, if_pos hwi]
            refine ⟨yieldsR_put (execOp_put oi (fun cs b => hsel i oi cs b hi) a oj.dst undef h3) (fun _ _ _ => rfl) hyi, ?_⟩
            unfold nextM
            simp only [hy]
            exact hk
        | any p =>
          unfold nextM at hni
          simp only [hy] at hni
          have hk := fun x => key (fun E => setE E i x) x (fun E n hn => by simp [setE, hn]) (fun E u => setE_comm hji u x) (hni x)
          by_cases hwj : Region.wanted oj (yielded ops a.tmps) = true
          · simp only [hwj, if_true] at hk ⊢
            refine ⟨(hk undef).1, ?_⟩
            have hn := fun x => (hk x).2
            unfold nextM at hn ⊢
            have fin : ∀ (E' : Nat → Option Value) (u : Value), (∀ n, n ≠ j → E' n = E n) → (∀ x, wpAnyR P md ops X Rl C sp sq late early ys m L fuel ((listed.setIfInBounds j true).setIfInBounds i true) (setE E' i x) ((a.put oj.dst u).put oi.dst x)) →
                wpAnyR P md ops X Rl C sp sq late early ys m L (fuel + 1) (listed.setIfInBounds j true) E' (a.put oj.dst u) := fun E' u hE' h => by
              refine ih (listed.setIfInBounds j true) E' _ invj hfree' hri ?_
              unfold rOp
              simp only [hi]
              rw [wanted_put oi a oj.dst u h3, if_pos hwi]
              refine ⟨yieldsR_put (execOp_put oi (fun cs b => hsel i oi cs b hi) a oj.dst u h3) (fun e he hb => hE' _ (hnot' e he hb)) hyi, ?_⟩
              unfold nextM
              simp only [hy]
              exact h
            cases hyj : ys j with
            | det v => simp only [hyj] at hn ⊢; exact fin _ v (fun _ _ => rfl) hn
            | any q => simp only [hyj] at hn ⊢; exact fun u => fin _ u (fun n hn => by simp [setE, hn]) (fun x => hn x u)
          · simp only [hwj] at hk ⊢
            refine ih (listed.setIfInBounds j true) E _ invj hfree' hri ?_
            unfold rOp
            simp only [hi]
            rw [wanted_put oi a oj.dst undef h3, if_pos hwi]
            refine ⟨yieldsR_put (execOp_put oi (fun cs b => hsel i oi cs b hi) a oj.dst undef h3) (fun _ _ _ => rfl) hyi, ?_⟩
            unfold nextM
            simp only [hy]
            exact hk
      · simp only [hwi] at H
        have hk := key id undef (fun _ _ _ => rfl) (fun _ _ => rfl) H
        by_cases hwj : Region.wanted oj (yielded ops a.tmps) = true
        · rw [if_pos hwj] at hk ⊢
          refine ⟨hk.1, ?_⟩
          have hn := hk.2
          unfold nextM at hn ⊢
          have fin : ∀ (E' : Nat → Option Value) (u : Value), wpAnyR P md ops X Rl C sp sq late early ys m L fuel ((listed.setIfInBounds j true).setIfInBounds i true) E' ((a.put oj.dst u).put oi.dst undef) →
              wpAnyR P md ops X Rl C sp sq late early ys m L (fuel + 1) (listed.setIfInBounds j true) E' (a.put oj.dst u) := fun E' u h => by
            refine ih (listed.setIfInBounds j true) E' _ invj hfree' hri ?_
            unfold rOp
            simp only [hi]
            rw [wanted_put oi a oj.dst u h3, if_neg hwi]
            exact h
          cases hyj : ys j with
          | det v => simp only [hyj] at hn ⊢; exact fin _ v hn
          | any q => simp only [hyj] at hn ⊢; exact fun u => fin _ u (hn u)
        · rw [if_neg hwj] at hk ⊢
          refine ih (listed.setIfInBounds j true) E _ invj hfree' hri ?_
          unfold rOp
          simp only [hi]
          rw [wanted_put oi a oj.dst undef h3, if_neg hwi]
          exact hk


theorem wpAnyR_lex {m g : Nat} {Lq : Act → World → Prop} (hsel : Region.noSelect ops = true) (htw : ∀ listed, HeadInv md ops m listed → ∀ i, i < m → listed.getD i true = false → ∀ t, m ≤ t → t ∉ Region.ready md ops listed) (hmn : m ≤ ops.size) :
    ∀ (l : List Oper) (k : Nat) (listed : Array Bool) (E : Nat → Option Value) (a : Act), (∀ j, j < l.length → l[j]? = ops[k + j]?) → k + l.length = m → sq < m → (sq < k → listed.getD sq false = true) → HeadInv md ops m listed →
    Region.lexHead md ops g l.length k listed = true → wpR P md ops X Rl C sp sq late early ys Lq l k E a →
    wpAnyR P md ops X Rl C sp sq late early ys m (fun listed' a' w' => Region.seqB md ops g m listed' = true ∧ Lq a' w') l.length listed E a
  | [], k, listed, E, a, _, hk, hsm, hsk, _, hB, h => by
    have : k = m := by simpa using hk
    subst this
    have hB' : Region.seqB md ops g k listed = true := by simpa [Region.lexHead] using hB
    exact ⟨seqB_ready hB', hsk hsm, fun w hC hE => ⟨hB', h w hC hE⟩⟩
  | o :: l, k, listed, E, a, hl, hk, hsm, hsk, inv, hB, h => by
    have h0 : ops[k]? = some o := by simpa using (hl 0 (by simp)).symm
    simp only [List.length_cons, Region.lexHead, Bool.and_eq_true] at hB
    obtain ⟨⟨hr, hf⟩, hB'⟩ := hB
    have hkn : k < m := by simp only [List.length_cons] at hk; omega
    have hr' : k ∈ Region.ready md ops listed := by simpa using hr
    have hst : rOp P md ops X Rl C sp sq late early ys k (wpR P md ops X Rl C sp sq late early ys Lq l (k + 1)) E a := by unfold rOp; simp only [h0]; exact h
    exact wpAnyR_first htw hkn h0 (Region.noSelect_spec hsel) l.length listed E a inv (Region.free_spec h0 hf) hr'
      (rOp_mono (fun E a h => wpAnyR_lex hsel htw hmn l (k + 1) _ E a (fun j hj => by have := hl (j + 1) (by simp; omega); simpa [Nat.add_assoc, Nat.add_comm 1 j] using this) (by simp only [List.length_cons] at hk; omega) hsm (fun hlt => (by
        by_cases e : k = sq
        · subst e
          have hsz := inv.size
          have : k < listed.size := by omega
          simp [this]
        · rw [getD_set_ne false e]; exact hsk (by omega))) (inv.set hr' hkn) hB' h) hst)


/-- The first m operations in every order, the special one among them; the rest behind them. -/
theorem wpIn_region_phases {F : Fence} {n : Nat} (m sp sq : Nat) {id : Nat} {Q : Exit → Act → World → Prop} {a : Act} {w : World} {l : List Oper} (late early : Nat → Bool) (yl : List Yld) (X : List PanicEntry → World → Prop) (Rl : Nat → World → World → Prop) (C : Nat → World → Prop) (hf : ∀ f, F.fn f) (hd : F.depth = none) (hcall : ∀ (k : Nat) (f : Nat) args w R, Calls P f args w R → CallsIn F k P f args w R)
    (hm : P.follows .mixedOrders = true) (hB : (noDefer l.toArray && Region.lexTailB .any l.toArray m) = true) (hspm : sq < m) (hne : sp ≠ sq) (hsg : ((match l.toArray[sp]? with | some o => o.guard.isNone | none => false) && (match l.toArray[sq]? with | some o => o.guard.isNone | none => false) && Region.waitsFor .any l.toArray sq sp) = true) (hlt : lateB .any l.toArray late sq = true) (her : earlyB .any l.toArray early sq = true) (hys : ∀ i b, (late i = true → b = 2) → (yl.getD i (.any fun _ _ => True)).stableP (Rl b)) (hC0 : C 0 { w with drawn := w.drawn + 1 }) (hX : ∀ ch a' w, a'.defers = a.defers → X ch w → Q (.panic ch) a' w)
    (h : wpR P .any l.toArray X Rl C sp sq late early (fun i => yl.getD i (.any fun _ _ => True)) (fun a' w' => wpListIn F n P l.toArray Q (l.drop m) a' w') (l.take m) 0 (fun _ => none) a) : (Code.region id l.toArray true).wpIn F n P Q a w := by
  simp only [Region.lexTailB, Bool.and_eq_true, decide_eq_true_eq] at hB
  obtain ⟨hdf, ⟨⟨⟨hsel, hn⟩, hs⟩, hc⟩, hlex⟩ := hB
  have hn' : m < l.length := by simpa using hn
  have htl : (l.take m).length = m := by simp; omega
  have hdl : (l.drop m).length = l.toArray.size - m := by simp
  have inv0 : HeadInv .any l.toArray m (Array.replicate l.toArray.size false) :=
    ⟨by simp, fun j oj _ hl => (by rw [getD_replicate_false] at hl; cases hl), fun t _ ht => getD_in (by simpa using ht) (getD_replicate_false _ _)⟩
  have H := wpAnyR_lex (md := .any) (g := l.toArray.size - m) hsel (fun listed inv i hi hun => tail_waits hs hc hn inv _ i rfl hi hun) (Nat.le_of_lt hn) (l.take m) 0 _ _ a (fun j hj => by
    have hj' : j < m := by rw [htl] at hj; exact hj
    simp [hj']) (by simpa using htl) hspm (fun h => absurd h (Nat.not_lt_zero _)) inv0 (by rw [htl]; exact hlex) h
  refine wpIn_region_any hm ?_
  simp only [Bool.and_eq_true] at hsg
  obtain ⟨⟨hg1, hg2⟩, hwf⟩ := hsg
  have := wpAnyIn_of_R (n := n) (Q' := Q) (g := l.toArray.size - m) hf hd hcall hdf (fun o ho => by rw [ho] at hg1; simpa using hg1) (fun o ho => by rw [ho] at hg2; simpa using hg2) hne hwf hlt her hys (fun listed a' w' _ hL => by
    have := wpAnyIn_of_seq (md := .any) (Q' := Q) (F := F) (n := n) (l.drop m) m listed a' w' (fun j => by simp [List.getElem?_drop]) (by rw [hdl]; exact hL.1) hL.2
    rwa [hdl] at this) a.defers hX _ _ (fun _ => none) _ { w with drawn := w.drawn + 1 } rfl (fun h => by rw [getD_replicate_false] at h; cases h) (fun k v hv => by cases hv) (fun j oj _ h => by rw [getD_replicate_false] at h; cases h) (by rw [phase, getD_replicate_false, getD_replicate_false]; exact hC0) (fun i v hv => by cases hv) H
  rw [htl, show m + (l.toArray.size - m) = l.toArray.size by omega] at this
  exact this

/-- All operations in every order. -/
theorem wpIn_region_all {F : Fence} {n : Nat} (sp sq : Nat) {id : Nat} {Q : Exit → Act → World → Prop} {a : Act} {w : World} {l : List Oper} (late early : Nat → Bool) (yl : List Yld) (X : List PanicEntry → World → Prop) (Rl : Nat → World → World → Prop) (C : Nat → World → Prop) (hf : ∀ f, F.fn f) (hd : F.depth = none) (hcall : ∀ (k : Nat) (f : Nat) args w R, Calls P f args w R → CallsIn F k P f args w R)
    (hm : P.follows .mixedOrders = true) (hB : (noDefer l.toArray && (Region.noSelect l.toArray && Region.lexHead .any l.toArray 0 l.length 0 (Array.replicate l.toArray.size false))) = true) (hspm : sq < l.length) (hne : sp ≠ sq) (hsg : ((match l.toArray[sp]? with | some o => o.guard.isNone | none => false) && (match l.toArray[sq]? with | some o => o.guard.isNone | none => false) && Region.waitsFor .any l.toArray sq sp) = true) (hlt : lateB .any l.toArray late sq = true) (her : earlyB .any l.toArray early sq = true) (hys : ∀ i b, (late i = true → b = 2) → (yl.getD i (.any fun _ _ => True)).stableP (Rl b)) (hC0 : C 0 { w with drawn := w.drawn + 1 }) (hX : ∀ ch a' w, a'.defers = a.defers → X ch w → Q (.panic ch) a' w)
    (h : wpR P .any l.toArray X Rl C sp sq late early (fun i => yl.getD i (.any fun _ _ => True)) (fun a' w' => Q .normal a' w') l 0 (fun _ => none) a) : (Code.region id l.toArray true).wpIn F n P Q a w := by
  simp only [Bool.and_eq_true] at hB
  obtain ⟨hdf, hsel, hlex⟩ := hB
  have inv0 : HeadInv .any l.toArray l.length (Array.replicate l.toArray.size false) :=
    ⟨by simp, fun j oj _ hl => (by rw [getD_replicate_false] at hl; cases hl), fun t _ ht => getD_in (by simpa using ht) (getD_replicate_false _ _)⟩
  have H := wpAnyR_lex (md := .any) (m := l.length) (g := 0) hsel (fun listed _ i _ _ t ht hr => by
    obtain ⟨_, ot, hot, _⟩ := mem_ready.1 hr
    have := (Array.getElem?_eq_some_iff.1 hot).1
    simp at this
    omega) (by simp) l 0 _ _ a (fun j hj => by simp [hj]) (by simp) hspm (fun h => absurd h (Nat.not_lt_zero _)) inv0 hlex h
  refine wpIn_region_any hm ?_
  simp only [Bool.and_eq_true] at hsg
  obtain ⟨⟨hg1, hg2⟩, hwf⟩ := hsg
  have := wpAnyIn_of_R (n := n) (Q' := Q) (g := 0) hf hd hcall hdf (fun o ho => by rw [ho] at hg1; simpa using hg1) (fun o ho => by rw [ho] at hg2; simpa using hg2) hne hwf hlt her hys (fun listed a' w' _ hL => ⟨by simpa [Region.seqB] using hL.1, hL.2⟩) a.defers hX _ _ (fun _ => none) _ { w with drawn := w.drawn + 1 } rfl (fun h => by rw [getD_replicate_false] at h; cases h) (fun k v hv => by cases hv) (fun j oj _ h => by rw [getD_replicate_false] at h; cases h) (by rw [phase, getD_replicate_false, getD_replicate_false]; exact hC0) (fun i v hv => by cases hv) H
  rw [Nat.add_zero, show l.length = l.toArray.size by simp] at this
  exact this

theorem wpR_step {Q : Act → World → Prop} {o : Oper} {rest : List Oper} {k : Nat} {E : Nat → Option Value} {a : Act}
    (h : ∀ K : (Nat → Option Value) → Act → Prop, (∀ E a, wpR P md ops X Rl C sp sq late early ys Q rest (k + 1) E a → K E a) → if Region.wanted o (yielded ops a.tmps) then yieldsR P md X Rl C sp sq late early ys E k o a ∧ nextM (ys k) k K E o.dst a else K E (a.put o.dst undef)) :
    wpR P md ops X Rl C sp sq late early ys Q (o :: rest) k E a := h _ (fun _ _ h => h)
theorem wpR_nil {Q : Act → World → Prop} {k : Nat} {E : Nat → Option Value} {a : Act} (h : ∀ w, C 2 w → (∀ i, Known ys E i w) → Q a w) : wpR P md ops X Rl C sp sq late early ys Q [] k E a := h
end
end Go.Proofs.YthfciekhmbfmfaaGreatDoor.Pan
