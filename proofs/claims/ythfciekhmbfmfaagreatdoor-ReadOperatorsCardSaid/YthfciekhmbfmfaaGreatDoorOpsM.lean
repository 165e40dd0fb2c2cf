/- Maps from names to operators. -/
import Derived.Maps.OwnSet
import Derived.StringKeys
import Derived.Test.YthfciekhmbfmfaaGreatDoorMeas
namespace Go.Proofs.YthfciekhmbfmfaaGreatDoor
open Go.RowKit Go Go.Maps

theorem keyStr : Keyed Tryz.prog 9 := string_keyed Tryz.underlying9
/-- An operator: its priority, and the greatest ones of its operands. -/
abbrev Op3 : Type := Int × Int × Int
def opV (o : Op3) : Value := .agg #[.int .i64 o.1, .int .i64 o.2.1, .int .i64 o.2.2]
def opD (o : Op3) : DataW Unit := .agg [.lit (.int .i64 o.1), .lit (.int .i64 o.2.1), .lit (.int .i64 o.2.2)]
def opElem (v : Value) : Option (DataW Unit × List MemPlace) :=
  match v with
  | .agg ⟨[.int .i64 a, .int .i64 b, .int .i64 c]⟩ => some (opD (a, b, c), [])
  | _ => none
theorem opElem_mk (o : Op3) : opElem (opV o) = some (opD o, []) := rfl
theorem opElem_inv {v : Value} {z : DataW Unit × List MemPlace} (h : opElem v = some z) : ∃ o, v = opV o ∧ z = (opD o, []) := by
  unfold opElem at h
  split at h
  · cases h
    exact ⟨(_, _, _), rfl, rfl⟩
  · cases h
theorem opD_inj {o o' : Op3} (h : opD o = opD o') : o = o' := by
  obtain ⟨a, b, c⟩ := o
  obtain ⟨a', b', c'⟩ := o'
  simp only [opD, DataW.agg.injEq, List.cons.injEq, DataW.lit.injEq, Lit.int.injEq, true_and, and_true] at h
  rw [h.1, h.2.1, h.2.2]
/-- Block b is a map that says of each name what f says. -/
def OpsAt (W : World) (b n : Nat) (f : List UInt8 → Option Op3) : Prop := ∃ D : DataW Unit, W.ownsMap Tryz.prog 9 opElem b n D ∧ Tidy D ∧
  ∀ key : List UInt8, Maps.has D (.string key) = (f key).isSome ∧ D.atKey (.string key) (opD (0, 0, 0)) = opD ((f key).getD (0, 0, 0))
theorem OpsAt.made (w : World) : OpsAt (w.alloc (.map #[] 0)) w.heap.size 0 (fun _ => none) := ⟨_, World.ownsMap_made w _ _ _, tidy_empty, fun key => ⟨by simp [Maps.has_eq], by simp [DataW.atKey]⟩⟩
theorem OpsAt.lt {W : World} {b n : Nat} {f : List UInt8 → Option Op3} (h : OpsAt W b n f) : b < W.heap.size := by obtain ⟨D, h, _⟩ := h; exact h.lt
theorem OpsAt.kept {W W' : World} {b n : Nat} {f : List UInt8 → Option Op3} {row : Option Nat} (h : OpsAt W b n f) (hg : W.grownBy W' row) (hne : some b ≠ row) : OpsAt W' b n f := by
  obtain ⟨D, h, hr⟩ := h; exact ⟨D, h.kept hg hne, hr⟩
theorem OpsAt.not_box {W : World} {b B n : Nat} {f : List UInt8 → Option Op3} {cs : Array Value} {t : TypeId} (h : OpsAt W b n f) (hB : Box W B cs t) : B ≠ b := fun e => by
  subst e
  obtain ⟨D, ⟨es, clock, hm, _⟩, _⟩ := h
  rw [show W.heap[B]? = some _ from hB] at hm
  cases hm
theorem zeroOp (w : World) : (zeroValue 48).run Tryz.prog w = .ok (opV (0, 0, 0)) w := Tryz.zeroValue48 w
theorem OpsAt.look_ok {W : World} {b n : Nat} {f : List UInt8 → Option Op3} (h : OpsAt W b n f) (key : ByteArray) (hk : key.size ≤ maxLen) :
    (Instr.lookup 111 (.map (some b)) (.string key) true).run Tryz.prog W = .ok (.tuple #[opV ((f key.data.toList).getD (0, 0, 0)), .bool (f key.data.toList).isSome]) W := by
  obtain ⟨D, h, _, hf⟩ := h
  obtain ⟨v, ps, hr, hv⟩ := h.look_ok keyStr Tryz.underlying111 (zeroOp W) (opElem_mk _) (WideMaps.keyOf_string_mk Tryz.underlying9 hk)
  obtain ⟨o, rfl, hc⟩ := opElem_inv hv
  rw [(hf _).2] at hc
  rw [(hf _).1] at hr
  simp only [Prod.mk.injEq] at hc
  rw [opD_inj hc.1]
  exact hr
theorem OpsAt.look {W : World} {b n : Nat} {f : List UInt8 → Option Op3} (h : OpsAt W b n f) (key : ByteArray) (hk : key.size ≤ maxLen) :
    (Instr.lookup 111 (.map (some b)) (.string key) false).run Tryz.prog W = .ok (opV ((f key.data.toList).getD (0, 0, 0))) W := by
  obtain ⟨D, h, _, hf⟩ := h
  obtain ⟨v, ps, hr, hv⟩ := h.lookup keyStr Tryz.underlying111 (zeroOp W) (opElem_mk _) (WideMaps.keyOf_string_mk Tryz.underlying9 hk)
  obtain ⟨o, rfl, hc⟩ := opElem_inv hv
  rw [(hf _).2] at hc
  simp only [Prod.mk.injEq] at hc
  rw [opD_inj hc.1]
  exact hr
def opPut (f : List UInt8 → Option Op3) (key : List UInt8) (o : Op3) : List UInt8 → Option Op3 := fun k => if k = key then some o else f k
theorem OpsAt.put {W : World} {b n : Nat} {f : List UInt8 → Option Op3} (h : OpsAt W b n f) (hn : n < maxLen) (key : ByteArray) (hk : key.size ≤ maxLen) (o : Op3) :
    ∃ w', (Instr.mapUpdate 111 (.map (some b)) (.string key) (opV o)).run Tryz.prog W = .ok () w' ∧ OpsAt w' b (n + 1) (opPut f key.data.toList o) ∧ W.grownBy w' (some b) := by
  obtain ⟨D, h, ht, hf⟩ := h
  obtain ⟨w', hr, h2, hg⟩ := h.update keyStr Tryz.underlying111 hn (WideMaps.keyOf_string_mk Tryz.underlying9 hk) (opElem_mk o)
  have hkl : WideAt.IsKeyLit (.string key.data.toList) := by simp [WideAt.IsKeyLit]
  refine ⟨w', hr, ⟨_, h2, ht.put hkl _, fun k2 => ?_⟩, hg⟩
  by_cases e : k2 = key.data.toList
  · subst e
    rw [has_put_same ht.isMap hkl, atKey_put_same ht.isMap hkl]
    simp [opPut]
  · have hne : (Lit.string k2) ≠ .string key.data.toList := fun h => by cases h; exact e rfl
    rw [has_put_other hne, atKey_put_other hne, (hf k2).1, (hf k2).2]
    simp [opPut, e]
end Go.Proofs.YthfciekhmbfmfaaGreatDoor
