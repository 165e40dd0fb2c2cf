import Derived.Maps.OwnSet
import Derived.StringKeys
import Derived.Test.YtckoecmdaefoiaaDoorText
namespace Go.Proofs.YtckoecmdaefoiaaDoor
open Go.RowKit Go Go.Maps

theorem keyS : Keyed Tryd.prog 9 := string_keyed Tryd.underlying9

/-- Block b is a map that numbers these texts in their order. -/
def Dict (W : World) (b : Nat) (ks : List (List UInt8)) : Prop := ∃ D : DataW Unit, W.ownsMap Tryd.prog 9 (plainElem Tryd.prog 3) b ks.length D ∧ Tidy D ∧ Maps.size D = ks.length ∧
  ∀ key : List UInt8, Maps.has D (.string key) = decide (key ∈ ks) ∧ D.atKey (.string key) (.lit (.int .i64 0)) = .lit (.int .i64 (if key ∈ ks then (ks.idxOf key : Int) else 0))
theorem Dict.made (w : World) : Dict (w.alloc (.map #[] 0)) w.heap.size [] := ⟨_, World.ownsMap_made w _ _ _, tidy_empty, rfl, fun key => ⟨by simp [Maps.has_eq], by simp [DataW.atKey]⟩⟩
theorem Dict.lt {W : World} {b : Nat} {ks : List (List UInt8)} (h : Dict W b ks) : b < W.heap.size := by obtain ⟨D, h, _⟩ := h; exact h.lt
theorem Dict.kept {W W' : World} {b : Nat} {ks : List (List UInt8)} {row : Option Nat} (h : Dict W b ks) (hg : W.grownBy W' row) (hne : some b ≠ row) : Dict W' b ks := by
  obtain ⟨D, h, hr⟩ := h; exact ⟨D, h.kept hg hne, hr⟩
theorem Dict.not_box {W : World} {b B : Nat} {ks : List (List UInt8)} {cs : Array Value} {t : TypeId} (h : Dict W b ks) (hB : Box W B cs t) : B ≠ b := fun e => by
  subst e
  obtain ⟨D, ⟨es, clock, hm, _⟩, _⟩ := h
  rw [show W.heap[B]? = some _ from hB] at hm
  cases hm
theorem Dict.look {W : World} {b : Nat} {ks : List (List UInt8)} (h : Dict W b ks) (key : ByteArray) (hk : key.size ≤ maxLen) :
    (Instr.lookup 130 (.map (some b)) (.string key) true).run Tryd.prog W = .ok (.tuple #[.int .i64 (if key.data.toList ∈ ks then (ks.idxOf key.data.toList : Int) else 0), .bool (decide (key.data.toList ∈ ks))]) W := by
  obtain ⟨D, h, _, _, hf⟩ := h
  obtain ⟨v, ps, hr, hv⟩ := h.look_ok keyS Tryd.underlying130 (zeroI W) (plainElem_int Tryd.underlying3 (wfI (by unfold okI; omega))) (WideMaps.keyOf_string_mk Tryd.underlying9 hk)
  obtain ⟨c, rfl, hc, _⟩ := plainElem_int_inv Tryd.underlying3 hv
  rw [(hf _).2] at hc
  rw [(hf _).1] at hr
  simp only [Prod.mk.injEq] at hc
  have := hc.1
  cases this
  exact hr
theorem Dict.len {W : World} {b : Nat} {ks : List (List UInt8)} (h : Dict W b ks) (ty : TypeId) : (Builtin.len_ #[130] ty #[.map (some b)]).run Tryd.prog W = .ok (.int .i64 ks.length) W := by
  obtain ⟨D, h, _, hs, _⟩ := h
  have := h.len Tryd.underlying130 ty
  rw [hs] at this
  exact this
theorem Dict.put {W : World} {b : Nat} {ks : List (List UInt8)} (h : Dict W b ks) (hn : ks.length < 1000000000) (key : ByteArray) (hk : key.size ≤ maxLen) (hnew : ¬ key.data.toList ∈ ks) :
    ∃ w', (Instr.mapUpdate 130 (.map (some b)) (.string key) (.int .i64 ks.length)).run Tryd.prog W = .ok () w' ∧ Dict w' b (ks ++ [key.data.toList]) ∧ W.grownBy w' (some b) := by
  obtain ⟨D, h, ht, hs, hf⟩ := h
  obtain ⟨w', hr, h2, hg⟩ := h.update keyS Tryd.underlying130 (by unfold maxLen; omega) (WideMaps.keyOf_string_mk Tryd.underlying9 hk) (plainElem_int Tryd.underlying3 (wfI (x := ks.length) (by unfold okI; omega)))
  have hkl : WideAt.IsKeyLit (.string key.data.toList) := by simp [WideAt.IsKeyLit]
  refine ⟨w', hr, ⟨_, by simpa using h2, ?_, ?_, fun k2 => ?_⟩, hg⟩
  · exact ht.put hkl _
  · rw [size_put ht, (hf _).1, decide_eq_false hnew, hs]
    simp
  · by_cases e : k2 = key.data.toList
    · subst e
      rw [has_put_same ht.isMap hkl, atKey_put_same ht.isMap hkl]
      refine ⟨by simp, ?_⟩
      rw [List.idxOf_append, if_neg hnew]
      simp
    · have hne : (Lit.string k2) ≠ .string key.data.toList := fun h => by cases h; exact e rfl
      rw [has_put_other hne, atKey_put_other hne, (hf k2).1, (hf k2).2]
      refine ⟨by simp [e], ?_⟩
      by_cases hm : k2 ∈ ks
      · rw [if_pos hm, if_pos (by simp [hm]), List.idxOf_append, if_pos hm]
      · rw [if_neg hm, if_neg (by simp [hm, e])]
end Go.Proofs.YtckoecmdaefoiaaDoor
