/- How a term is written: bytes behind bytes. -/
import Derived.Test.YthfciekhmbfmfaaGreatDoorOpsF
import Derived.Test.YthfciekhmbfmfaaGreatDoorQuote
import Derived.Test.YthfciekhmbfmfaaGreatDoorParA
import Derived.Test.YthfciekhmbfmfaaGreatDoorParI
import Derived.Test.YthfciekhmbfmfaaGreatDoorPan
namespace Go.Proofs.YthfciekhmbfmfaaGreatDoor
open Go.RowKit Go

/-- What was written, and whether a prefix operator stands last. -/
structure WS where
  out : List UInt8
  beh : Bool
/-- Would what begins with a byte run into what stands last? -/
def blankF (st : WS) (first : UInt8) : Bool := match st.out.getLast? with | none => false | some c => naB c && naB first || (syB c && syB first || st.beh && decide (first = 40))
def putF (st : WS) (s : List UInt8) : WS := ⟨(if blankF st (s.headD 0) then st.out ++ [32] else st.out) ++ s, false⟩
/-- The lexeme that a text is. -/
def onlyF (l : List UInt8) : Option Tok := if l.length > 20000 then none else match lexL l with | .ok [x] => some x.t | _ => none
/-- The name of a structure. -/
def nameF (l : List UInt8) : List UInt8 := match onlyF l with | some t => if t.k = .name ∧ t.s = l then l else qtL l ++ [39] | none => qtL l ++ [39]
def isOp (l : List UInt8) : Bool := decide ((infV (nm l)).1 > 0) || decide ((preV (nm l)).1 > 0)
/-- An atom. -/
def atomF (l : List UInt8) : List UInt8 := if l = [91, 93] then l else if isOp l then qtL l ++ [39] else nameF l
def intL (n : Int) : List UInt8 := if n < 0 then 45 :: Lib.decDigits n.natAbs else Lib.decDigits n.toNat
/-- The operator with which a term is written. -/
def opF (plain : Bool) : Tr → Op3
  | .node k _ s l =>
    if plain = true ∨ k ≠ 5 then (0, 0, 0)
    else match l with
      | [x] => if s.data.toList = [45] ∧ (x.kind = 2 ∨ (opF plain x).1 > (preV s).2.2) then (0, 0, 0) else preV s
      | [_, _] => infV s
      | _ => (0, 0, 0)
def cellB : Tr → Bool
  | .node k _ s l => decide (k = 5) && decide (s.data.toList = [46]) && decide (l.length = 2)
def nilB : Tr → Bool
  | .node k _ s _ => decide (k = 3) && decide (s.data.toList = [91, 93])
section
variable (plain : Bool) (vn : Nat → List UInt8) (rec : Int → Tr → WS → WS)
def tailW : List Tr → WS → WS
  | [], st => st
  | t :: ts, st => tailW ts (rec 999 t (putF st [44]))
def partsW : List Tr → WS → WS
  | [], st => st
  | t :: ts, st => tailW rec ts (rec 999 t st)
def restW : Nat → Tr → WS → WS
  | 0, _, st => st
  | n + 1, .node k i s l, st =>
    if cellB (.node k i s l) then restW n (l.getD 1 default) (rec 999 (l.getD 0 default) (putF st [44]))
    else if nilB (.node k i s l) then st
    else rec 999 (.node k i s l) (putF st [124])
def simpleW : Tr → WS → WS
  | .node k n s l, st =>
    if k = 1 then putF st (vn n.toNat)
    else if k = 2 then putF st (intL n)
    else if k = 3 then putF st (atomF s.data.toList)
    else if k = 4 then putF st (qsL s.data.toList ++ [34])
    else if k = 6 then putF (partsW rec l (putF st [123])) [125]
    else if k = 5 then
      if cellB (.node k n s l) then putF (restW rec (sizeL l + 1) (l.getD 1 default) (rec 999 (l.getD 0 default) (putF st [91]))) [93]
      else putF (partsW rec l (putF (putF st (nameF s.data.toList)) [40])) [41]
    else st
def bodyW (T : Tr) (st : WS) : WS :=
  if (opF plain T).1 = 0 then simpleW vn rec T st
  else if (opF plain T).2.1 = 0 then rec (opF plain T).2.2 (T.subs.getD 0 default) ⟨(putF st T.str.data.toList).out, true⟩
  else rec (opF plain T).2.2 (T.subs.getD 1 default) (putF (rec (opF plain T).2.1 (T.subs.getD 0 default) st) T.str.data.toList)
end
/-- A term is written at a place for terms up to a priority. -/
def wrN (plain : Bool) (vn : Nat → List UInt8) : Nat → Int → Tr → WS → WS
  | 0, _, _, st => st
  | n + 1, most, T, st => if (opF plain T).1 > most then putF (bodyW plain vn (wrN plain vn n) T (putF st [40])) [41] else bodyW plain vn (wrN plain vn n) T st
def wrL (plain : Bool) (vn : Nat → List UInt8) (most : Int) (T : Tr) (st : WS) : WS := wrN plain vn (T.size + 1) most T st
end Go.Proofs.YthfciekhmbfmfaaGreatDoor

/- The writer's state in memory; whether a blank is wanted. -/
namespace Go.Proofs.YthfciekhmbfmfaaGreatDoor
open Go.RowKit Go Go.Maps

/-- The writer in its box. -/
structure WrSt (w : World) (B b1 b2 : Nat) (fv : Value) (plain : Bool) (st : WS) (ov : Value) (W : World) : Prop where
  box : Box W B #[ov, .map (some b1), .map (some b2), fv, .bool plain, .bool st.beh] 115
  out : W.ownsRow w.heap.size 5 1 ov st.out.length (byts st.out)
  ops : OpsTwo w.heap.size W b1 b2
  below : Below w.heap.size w W
  hB : w.heap.size ≤ B
section
variable {w : World} {B b1 b2 : Nat} {fv ov : Value} {plain : Bool} {st : WS} {W : World}
theorem WrSt.form (h : WrSt w B b1 b2 fv plain st ov W) : ∃ a c, ov = .slice a st.out.length c := by
  rcases h.out.2 with ⟨e1, e2⟩ | ⟨g, cap, cur, e1, _⟩
  · exact ⟨none, 0, by rw [e1, e2]⟩
  · exact ⟨_, _, e1⟩
theorem WrSt.last (h : WrSt w B b1 b2 fv plain st ov W) {k : Nat} (hk : st.out.length = k + 1) : ∃ g c x, ov = .slice (some ⟨g, 0, none⟩) (k + 1) c ∧ g < W.heap.size ∧ W.cell? ⟨g, k, none⟩ = some (.int .u8 (x.toNat : Int)) ∧ st.out.getLast? = some (x : UInt8) := by
  rcases h.out.2 with ⟨_, e2⟩ | ⟨g, cap, cur, rfl, _, hg, _⟩
  · omega
  · have hlt : k < st.out.length := by omega
    refine ⟨g, cap, st.out[k], by rw [hk], (Array.getElem?_eq_some_iff.1 hg).1, ?_, ?_⟩
    · have := World.ownsRow.cells h.out (g := g) rfl k (.int .u8 (st.out[k].toNat : Int)) (by simp [byts, hlt])
      rwa [Addr.add_lit, Nat.zero_add] at this
    · rw [List.getLast?_eq_getElem?, show st.out.length - 1 = k by omega, List.getElem?_eq_getElem hlt]
set_option maxRecDepth 100000 in
set_option maxHeartbeats 16000000 in
theorem needsBlank_any (h : WrSt w B b1 b2 fv plain st ov W) (hl : st.out.length ≤ 1000000000) (c : UInt8) : Calls Tryz.prog 126 #[.pointer (some ⟨B, 0, none⟩), .int .u8 (c.toNat : Int)] W fun e W' => e = .returned (.bool (blankF st c)) ∧ Below W.heap.size W W' := by
  have c5 := h.box.cell 5
  have l0 := h.box.lt
  have HN := Lib.hid (fun (x : UInt8) w => isNamed_any (x.toNat : Int) w)
  have HS := Lib.hid (fun (x : UInt8) w => isSymbol_any x w)
  rcases hk : st.out.length with _ | k
  · obtain ⟨a, cc, rfl⟩ := h.form
    have c0 := h.box.cell 0
    rw [hk] at c0
    have HB : Hid (blankF st c = false) := by
      rw [Hid, blankF, List.length_eq_zero_iff.1 hk]; rfl
    simp only [List.getElem?_toArray, List.getElem?_cons_succ, List.getElem?_cons_zero] at c0 c5
    clear h hk hl
    go_enter Tryz.func126, Tryz.ntmps126
    go_wp2_with fail
    go_ret
    exact ⟨retB HB.out, Below.refl _ _⟩
  · obtain ⟨g, cc, x, rfl, hg, hx, hlast⟩ := h.last hk
    have c0 := h.box.cell 0
    have hbl : Hid (blankF st c = (naB x && naB c || (syB x && syB c || st.beh && decide (c = 40)))) := by rw [Hid, blankF, hlast]
    obtain ⟨beh, hbeh⟩ : ∃ beh, st.beh = beh := ⟨_, rfl⟩
    rw [hbeh] at hbl c5
    simp only [List.getElem?_toArray, List.getElem?_cons_succ, List.getElem?_cons_zero] at c0 c5
    have hk1 : ((k : Int) + 1 - 1) = (k : Int) := by omega
    have hwr : IntKind.i64.wrap (k : Int) = (k : Int) := by rw [IntKind.wrap_i64]; omega
    have hk0 : (((k + 1 : Nat) : Int) == 0) = false := by simpa using (by omega : ¬ ((k : Int) + 1 = 0))
    clear h hlast hbeh
    have hc40 : ((c.toNat : Int) == 40) = decide (c = 40) := by
      by_cases h40 : c = 40
      · subst h40; rfl
      · rw [decide_eq_false h40]
        simp only [beq_eq_false_iff_ne, ne_eq]
        exact fun e => h40 (UInt8.toNat_inj.1 (by show c.toNat = 40; omega))
    cases hbe : beh <;> cases ha : namedB (x.toNat : Int) <;> cases hb : namedB (c.toNat : Int) <;> cases hd : symbolB (x.toNat : Int) <;> cases he : symbolB (c.toNat : Int)
    all_goals
      subst hbe
      have HA := Lib.hid (And.intro ha (And.intro hb (And.intro hd (And.intro he hc40))))
      clear hc40
      go_enter Tryz.func126, Tryz.ntmps126
      go_wp2_with fail
      go_quiet (fail)
      go_wp2_with (first | (go_at_call 178; refine (HN.out _ _).mono ?_; rintro e w' ⟨rfl, rfl⟩) | (go_at_call 141; refine (HS.out _ _).mono ?_; rintro e w' ⟨rfl, rfl⟩))
      all_goals
        go_ret
        refine ⟨retB ?_, dn_below _ _⟩
        obtain ⟨h1, h2, h3, h4, h5⟩ := HA.out
        rw [hbl.out]
        simp [naB, syB, h1, h2, h3, h4, h5]
end
end Go.Proofs.YthfciekhmbfmfaaGreatDoor

/- Whether a name is that of an operator. -/
namespace Go.Proofs.YthfciekhmbfmfaaGreatDoor
open Go.RowKit Go Go.Maps

theorem isOp_eq (name : List UInt8) : isOp name = (decide ((infV (nm name)).1 > 0) || decide ((preV (nm name)).1 > 0)) := rfl
set_option maxRecDepth 100000 in
set_option maxHeartbeats 8000000 in
theorem has_any (W : World) (lo b1 b2 : Nat) (h : OpsTwo lo W b1 b2) (name : List UInt8) (hnm : name.length ≤ 255) :
    Calls Tryz.prog 127 #[.agg #[.map (some b1), .map (some b2)], sV name] W fun e W' => e = .returned (.bool (isOp name)) ∧ Below W.heap.size W W' := by
  obtain ⟨o1, o2, o3, ⟨m1, o4⟩, m2, o5⟩ := h
  have hks : (⟨name.toArray⟩ : ByteArray).size ≤ maxLen := by show name.toArray.size ≤ _; simp [maxLen]; omega
  obtain ⟨⟨ia, ib, ic⟩, hi⟩ : ∃ o : Op3, infV (nm name) = o := ⟨_, rfl⟩
  obtain ⟨⟨pa, pb, pc⟩, hp⟩ : ∃ o : Op3, preV (nm name) = o := ⟨_, rfl⟩
  have hl1 := fun (W' : World) (hB : Below W.heap.size W W') => (o4.block (hB.block _ o4.lt)).look ⟨name.toArray⟩ hks
  have hl2 := fun (W' : World) (hB : Below W.heap.size W W') => (o5.block (hB.block _ o5.lt)).look ⟨name.toArray⟩ hks
  rw [show (tabF opsI (⟨name.toArray⟩ : ByteArray).data.toList).getD (0, 0, 0) = (ia, ib, ic) from hi] at hl1
  rw [show (tabF opsP (⟨name.toArray⟩ : ByteArray).data.toList).getD (0, 0, 0) = (pa, pb, pc) from hp] at hl2
  simp only [opV] at hl1 hl2
  have HP : Hid (isOp name = (decide (ia > 0) || decide (pa > 0))) := by rw [Hid, isOp, hi, hp]
  have hA := below_a1 (Nat.le_refl W.heap.size) (.cells #[.map (some b1), .map (some b2)] 113)
  have hla := hl1 _ hA
  have hlb := hl2 _ hA
  have hf1 : ∀ w, (Instr.field 48 (.agg #[.int .i64 ia, .int .i64 ib, .int .i64 ic]) 0).run Tryz.prog w = .ok (.int .i64 ia) w := fun w => by kernel_rfl
  have hf2 : ∀ w, (Instr.field 48 (.agg #[.int .i64 pa, .int .i64 pb, .int .i64 pc]) 0).run Tryz.prog w = .ok (.int .i64 pa) w := fun w => by kernel_rfl
  clear o1 o2 o3 o4 o5 hl1 hl2 hi hp
  by_cases hia : 0 < ia
  · have HD : Hid (isOp name = true) := by rw [Hid, HP.out]; simp [hia]
    clear hA
    go_enter Tryz.func127, Tryz.ntmps127
    go_wp2_with fail
    go_ret
    exact ⟨retB HD.out, below_a1 (Nat.le_refl _) _⟩
  · by_cases hpa : 0 < pa
    · have HD : Hid (isOp name = true) := by rw [Hid, HP.out]; simp [hpa]
      clear hA
      go_enter Tryz.func127, Tryz.ntmps127
      go_wp2_with fail
      go_ret
      exact ⟨retB HD.out, below_a1 (Nat.le_refl _) _⟩
    · have HD : Hid (isOp name = false) := by rw [Hid, HP.out]; simp; omega
      clear hA
      go_enter Tryz.func127, Tryz.ntmps127
      go_wp2_with fail
      go_ret
      exact ⟨retB HD.out, below_a1 (Nat.le_refl _) _⟩
end Go.Proofs.YthfciekhmbfmfaaGreatDoor

/- A region in which the parser reads a term, puts a structure together, and stores it: what is so ahead of the call, behind it, and behind the store. -/
namespace Go.Proofs.YthfciekhmbfmfaaGreatDoor
open Go.RowKit Go Go.Maps

/-- The blocks of terms from lo on stay. -/
def FarK (lo : Nat) (_ : Nat) (A B : World) : Prop := A.heap.size ≤ B.heap.size ∧ ∀ (k : Nat) (c : Array Value) (fr : Nat × Nat), lo ≤ k → A.heap[k]? = some (Obj.cells c 31 fr) → B.heap[k]? = some (Obj.cells c 31 fr)
theorem FarK.refl (lo i : Nat) (A : World) : FarK lo i A A := ⟨Nat.le_refl _, fun _ _ _ _ h => h⟩
theorem FarK.of_tk {lo i : Nat} {A B : World} (hs : A.heap.size ≤ B.heap.size) (h : TmK A B) : FarK lo i A B := ⟨hs, fun k c fr _ e => h k c fr e⟩
theorem FarK.of_ext {lo i : Nat} {A B : World} (h : Ext A B) : FarK lo i A B := .of_tk (Below.size h) (TmK.of_below h)
theorem tval.farK {lo i : Nat} {t : Tr} {v : Value} {A B : World} (h : tval lo t v A) (hK : FarK lo i A B) : tval lo t v B :=
  IsP.map (fun b hb => by
    obtain ⟨h1, c, fr, h2⟩ := hb
    have h3 := hK.2 b c fr h1 h2
    exact ⟨⟨h1, c, fr, h3⟩, by rw [h3, h2]⟩) _ _ h
theorem lval.farK {lo i : Nat} {l : List Tr} {v : Value} {A B : World} (h : lval lo l v A) (hK : FarK lo i A B) : lval lo l v B := by
  obtain ⟨a, c, h1, h2, h3, h4⟩ := h
  exact ⟨a, c, h1, h2, h3, IsPL.map (fun b hb => by
    obtain ⟨h1, c, fr, h2⟩ := hb
    have h3 := hK.2 b c fr h1 h2
    exact ⟨⟨h1, c, fr, h3⟩, by rw [h3, h2]⟩) _ _ h4⟩
/-- What the operations of the region yield. -/
def YT (lo : Nat) (r : PR Tr) (tr : Tr → Tr) (u : Value) (w : World) : Prop := lo ≤ w.heap.size ∧ ∃ t st, r = .ok (t, st) ∧ tval lo (tr t) u w
def YL (lo : Nat) (r : PR Tr) (tl : Tr → List Tr) (u : Value) (w : World) : Prop := lo ≤ w.heap.size ∧ ∃ t st, r = .ok (t, st) ∧ lval lo (tl t) u w
theorem YT.stable (lo b : Nat) (r : PR Tr) (tr : Tr → Tr) : (Yld.any (YT lo r tr)).stableP (FarK lo b) := fun _ _ _ hK ⟨h1, t, st, h2, h3⟩ => ⟨Nat.le_trans h1 hK.1, t, st, h2, h3.farK hK⟩
theorem YL.stable (lo b : Nat) (r : PR Tr) (tl : Tr → List Tr) : (Yld.any (YL lo r tl)).stableP (FarK lo b) := fun _ _ _ hK ⟨h1, t, st, h2, h3⟩ => ⟨Nat.le_trans h1 hK.1, t, st, h2, h3.farK hK⟩
section
variable (w : World) (B b1 b2 V tot : Nat) (xs : List Lx) (pv nv : Value) (W W3 : World) (R0 R1 lo : Nat) (z0 z1 z2 z3 : Value) (oa ob oc : Int) (j : Nat) (r : PR Tr) (tr : Tr → Tr) (kp : World → Prop)
def RegC (ph : Nat) (w' : World) : Prop :=
  (Box w' R1 #[.int .i64 oa, .int .i64 ob, .int .i64 oc] 48 ∧ lo ≤ w'.heap.size) ∧
  (if ph = 0 then Ext W3 w' ∧ Box w' R0 #[z0, z1, z2, z3] 31 ∧ kp w'
  else if ph = 1 then ∃ t2 st2 nv2, r = .ok (t2, st2) ∧ PaSt w B b1 b2 V tot xs pv st2 nv2 w' ∧ PaTo B V nv nv2 W w' ∧ j ≤ st2.i ∧ Box w' R0 #[z0, z1, z2, z3] 31 ∧ kp w'
  else ∃ t2 st2 nv2 e0 e1 e2 e3, r = .ok (t2, st2) ∧ PaSt w B b1 b2 V tot xs pv st2 nv2 w' ∧ PaTo B V nv nv2 W w' ∧ j ≤ st2.i ∧ Box w' R0 #[e0, e1, e2, e3] 31 ∧ tval lo (tr t2) (.agg #[e0, e1, e2, e3]) w')
def RegX (ch : List PanicEntry) (w' : World) : Prop := ∃ p : Nat, r = .error p ∧ Ending.panicked ch = thrown (p : Int) 21 ∧ Below w.heap.size w w'
end
section
variable {w : World} {B b1 b2 V tot : Nat} {xs : List Lx} {pv nv : Value} {W W3 : World} {R0 R1 lo : Nat} {z0 z1 z2 z3 : Value} {oa ob oc : Int} {j : Nat} {r : PR Tr} {tr : Tr → Tr} {kp : World → Prop}
theorem RegC.op {ph : Nat} {w' : World} (h : RegC w B b1 b2 V tot xs pv nv W W3 R0 R1 lo z0 z1 z2 z3 oa ob oc j r tr kp ph w') : Box w' R1 #[.int .i64 oa, .int .i64 ob, .int .i64 oc] 48 ∧ lo ≤ w'.heap.size := h.1
theorem RegC.old {ph : Nat} {w' : World} (hph : ph < 2) (h : RegC w B b1 b2 V tot xs pv nv W W3 R0 R1 lo z0 z1 z2 z3 oa ob oc j r tr kp ph w') : Box w' R0 #[z0, z1, z2, z3] 31 ∧ kp w' := by
  have h2 := h.2
  by_cases h0 : ph = 0
  · rw [if_pos h0] at h2; exact h2.2
  · rw [if_neg h0, if_pos (by omega)] at h2
    obtain ⟨_, _, _, _, _, _, _, h3⟩ := h2
    exact h3
theorem RegC.start (h1 : Box W3 R1 #[.int .i64 oa, .int .i64 ob, .int .i64 oc] 48) (h2 : lo ≤ W3.heap.size) (h3 : Box W3 R0 #[z0, z1, z2, z3] 31) (h4 : kp { W3 with drawn := W3.drawn + 1 }) : RegC w B b1 b2 V tot xs pv nv W W3 R0 R1 lo z0 z1 z2 z3 oa ob oc j r tr kp 0 { W3 with drawn := W3.drawn + 1 } :=
  ⟨⟨h1, h2⟩, by rw [if_pos rfl]; exact ⟨(Below.refl _ _).drew, h3, h4⟩⟩
/-- Memory is made, ahead of the store. -/
theorem RegC.ext {ph : Nat} {w' w'' : World} (hph : ph < 2) (hkp : ∀ A B, Ext A B → kp A → kp B) (h : RegC w B b1 b2 V tot xs pv nv W W3 R0 R1 lo z0 z1 z2 z3 oa ob oc j r tr kp ph w') (hE : Ext w' w'') : RegC w B b1 b2 V tot xs pv nv W W3 R0 R1 lo z0 z1 z2 z3 oa ob oc j r tr kp ph w'' := by
  obtain ⟨⟨h1, h2⟩, h3⟩ := h
  refine ⟨⟨h1.keep hE, Nat.le_trans h2 (Below.size hE)⟩, ?_⟩
  by_cases h0 : ph = 0
  · rw [if_pos h0] at h3 ⊢
    exact ⟨h3.1.trans hE, h3.2.1.keep hE, hkp _ _ hE h3.2.2⟩
  · rw [if_neg h0, if_pos (by omega)] at h3 ⊢
    obtain ⟨t2, st2, nv2, g1, g2, g3, g4, g5, g6⟩ := h3
    exact ⟨t2, st2, nv2, g1, g2.up hE, g3.trans (PaTo.up hE), g4, g5.keep hE, hkp _ _ hE g6⟩
/-- The call. -/
theorem RegC.call {st : PS} {i : Nat} {w' w'' : World} {e : Ending} (hkp : ∀ A B, TmK A B → kp A → kp B) (h0 : PaSt w B b1 b2 V tot xs pv st nv W3) (hW : PaTo B V nv nv W W3) (hj : j ≤ i) (h : RegC w B b1 b2 V tot xs pv nv W W3 R0 R1 lo z0 z1 z2 z3 oa ob oc j r tr kp 0 w')
    (hQ : PaQ w B b1 b2 V tot xs pv nv i w' (tval w'.heap.size) r e w'') : (∃ v, e = .returned v ∧ (FarK lo 0 w' w'' ∧ RegC w B b1 b2 V tot xs pv nv W W3 R0 R1 lo z0 z1 z2 z3 oa ob oc j r tr kp 1 w'' ∧ YT lo r id v w'')) ∨ ∃ ch, e = .panicked ch ∧ RegX w r ch w'' := by
  obtain ⟨⟨h1, h2⟩, h3⟩ := h
  rw [if_pos rfl] at h3
  obtain ⟨hE, h4, h5⟩ := h3
  have h0' := h0.up hE
  cases hr : r with
  | error p =>
    rw [hr] at hQ
    obtain ⟨rfl, hb⟩ := hQ
    exact .inr ⟨_, rfl, p, rfl, rfl, hb⟩
  | ok x =>
    obtain ⟨t, st2⟩ := x
    rw [hr] at hQ
    obtain ⟨v, nv2, rfl, ht, g1, g2, g3⟩ := hQ
    have hK := PaTo.tk h0' g2
    refine .inl ⟨v, rfl, .of_tk g2.size hK, ⟨⟨PaTo.box h0' g2 h1 (by decide) (by decide), Nat.le_trans h2 g2.size⟩, ?_⟩, Nat.le_trans h2 g2.size, t, st2, rfl, ht.up (TmK.refl _) h2⟩
    rw [if_neg (by decide), if_pos rfl]
    exact ⟨t, st2, nv2, rfl, g1, (hW.trans (PaTo.up hE)).trans g2, Nat.le_trans hj g3, PaTo.box h0' g2 h4 (by decide) (by decide), hkp _ _ hK h5⟩
/-- The store. -/
theorem RegC.store {w' : World} {e0 e1 e2 e3 : Value} (hlo : R0 < lo) (hw : w.heap.size ≤ R0) (hW : W.heap.size ≤ R0) (hne : R1 ≠ R0) (h : RegC w B b1 b2 V tot xs pv nv W W3 R0 R1 lo z0 z1 z2 z3 oa ob oc j r tr kp 1 w') (hy : YT lo r tr (.agg #[e0, e1, e2, e3]) w') :
    FarK lo 1 w' (set4 w' R0 e0 e1 e2 e3) ∧ RegC w B b1 b2 V tot xs pv nv W W3 R0 R1 lo z0 z1 z2 z3 oa ob oc j r tr kp 2 (set4 w' R0 e0 e1 e2 e3) := by
  obtain ⟨⟨h1, h2⟩, h3⟩ := h
  rw [if_neg (by decide), if_pos rfl] at h3
  obtain ⟨t2, st2, nv2, g1, g2, g3, g4, g5, g6⟩ := h3
  obtain ⟨_, t, st, k1, k2⟩ := hy
  rw [g1] at k1
  cases k1
  have hsz : (set4 w' R0 e0 e1 e2 e3).heap.size = w'.heap.size := by simp [set4]
  refine ⟨⟨by rw [hsz]; exact Nat.le_refl _, fun k c fr hk e => (set4_block _ _ _ _ _ _ _ (by omega)).trans e⟩, ⟨(set4_block _ _ _ _ _ _ _ hne).trans h1, by rw [hsz]; exact h2⟩, ?_⟩
  rw [if_neg (by decide), if_neg (by decide)]
  exact ⟨t2, st2, nv2, e0, e1, e2, e3, g1, g2.put g5 hw _ _ _ _, g3.put hW _ _ _ _, g4, g5.set4 _ _ _ _, k2.set4 hlo _ _ _ _⟩
theorem RegC.done {w' : World} (h : RegC w B b1 b2 V tot xs pv nv W W3 R0 R1 lo z0 z1 z2 z3 oa ob oc j r tr kp 2 w') : Box w' R1 #[.int .i64 oa, .int .i64 ob, .int .i64 oc] 48 ∧ ∃ t2 st2 nv2 e0 e1 e2 e3, r = .ok (t2, st2) ∧ PaSt w B b1 b2 V tot xs pv st2 nv2 w' ∧ PaTo B V nv nv2 W w' ∧ j ≤ st2.i ∧ Box w' R0 #[e0, e1, e2, e3] 31 ∧ tval lo (tr t2) (.agg #[e0, e1, e2, e3]) w' := by
  obtain ⟨⟨h1, h2⟩, h3⟩ := h
  rw [if_neg (by decide), if_neg (by decide)] at h3
  exact ⟨h1, h3⟩
end
end Go.Proofs.YthfciekhmbfmfaaGreatDoor
