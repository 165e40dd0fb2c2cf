/- How many leaves are variables; a set of numbers whose size is known; whether a list of numbers holds one of a kind. -/
import Derived.Maps.OwnSet
import Derived.Test.YtckoecmdaefoiaaDoorShift
namespace Go.Proofs.YtckoecmdaefoiaaDoor
open Go.RowKit Go Go.Maps

set_option maxRecDepth 100000 in
set_option maxHeartbeats 1000000 in
theorem leaves_any (T : Tr) : ∀ (v : Value) (w : World), IsT w.heap.size w T v → T.size ≤ 1000000000 →
    Calls Tryd.prog 71 #[v] w fun e w' => e = .returned (.int .i64 (lvT T : Int)) ∧ Below w.heap.size w w' := by
  induction T using Tr.ind with
  | h k n s l ih =>
  intro v w hT hsz
  obtain ⟨a, c, rfl, _, _, hs, hlc, hcm, hl⟩ := hT.open
  have HI := Lib.hid ih
  have HL := Lib.hid hl
  have hlm : l.length ≤ 9223372036854775807 := by unfold maxLen at hcm; omega
  have b0 : Box (w.alloc (.cells #[.int .i64 k, .int .i64 n, .string s, .slice a l.length c] 25)) w.heap.size #[.int .i64 k, .int .i64 n, .string s, .slice a l.length c] 25 := Box.at rfl
  have hB0 := below_a1 (Nat.le_refl w.heap.size) (.cells #[.int .i64 k, .int .i64 n, .string s, .slice a l.length c] 25)
  have HB := Lib.hid (And.intro b0 hB0)
  simp only [Tr.size] at hsz
  have hlv := lvL_le l
  obtain ⟨c0, hc0⟩ : ∃ c0 : Nat, (if k = 1 then 1 else 0) = c0 := ⟨_, rfl⟩
  have hcb : c0 ≤ 1 := by rw [← hc0]; split <;> omega
  have HS : Hid (lvT (.node k n s l) = c0 + lvL l) := by rw [Hid, lvT, hc0]
  have HC0 := Lib.hid hc0
  have hkk : k = 1 ∨ ((k == 1) = false ∧ c0 = 0) := by
    by_cases hk : k = 1
    · exact .inl hk
    · exact .inr ⟨by simpa using hk, by rw [← hc0, if_neg hk]⟩
  clear ih hT hl b0 hB0 hc0
  rw [HS.out]
  rcases hkk with hk | ⟨hk, hz⟩
  · subst hk
    obtain rfl : c0 = 1 := by have := HC0.out; simpa using this.symm
    clear HC0
    go_enter Tryd.func71, Tryd.ntmps71
    go_wp2_with fail
    go_loopw [3, 12] (fun x i wr => ∃ j : Nat, j ≤ l.length ∧ i = .int .i64 j ∧ x = .int .i64 ((1 : Int) + (lvL (l.take j) : Int)) ∧ Below w.heap.size w wr) (fun _ i _ => l.length - (intOf i).toNat)
    case atStart => exact ⟨0, Nat.zero_le _, rfl, rfl, HB.out.2⟩
    case round =>
      obtain ⟨j, hj, rfl, rfl, hBj⟩ := hrel
      by_cases hlt : j < l.length
      · obtain ⟨b, off, rfl, hbb⟩ := HL.out.addr (by omega)
        obtain ⟨tk, tn, ts, tl, ta, tc, te, d0, d1, d2, d3, ht⟩ := HL.out.node' hbb hBj j hlt
        have hwr := hBj.size
        have hbw : b < wr.heap.size := by omega
        have hq1 := lvL_take hlt
        have hr1 : lvL (l.take (j + 1)) ≤ sizeL l := Nat.le_trans (lvL_le _) (sizeL_take_le (l := l) (j + 1))
        have hu1 : l[j].size ≤ 1000000000 := by have := size_mem (List.getElem_mem hlt); omega
        have B1 := hBj.trans (below_a1 hBj.size (.cells #[.int .i64 tk, .int .i64 tn, .string ts, .slice ta tl.length tc] 25))
        have hc := HI.out _ (List.getElem_mem hlt) _ _ (ht.up B1 B1.size) hu1
        generalize hA : lvL (l.take (j + 1)) = A at *
        generalize lvL (l.take j) = A0 at *
        generalize lvT l[j] = A1 at *
        have HQ := Lib.hid (And.intro hq1 hA)
        have hle : (A0 : Int) + A1 ≤ 1000000000 := by omega
        have hnn : 0 ≤ (A0 : Int) ∧ 0 ≤ (A1 : Int) := by omega
        have HC := Lib.hid hc
        have HJ := Lib.hid B1
        clear te hBj hq1 hA hc B1
        go_wp2_with fail
        refine HC.out.mono ?_
        rintro e w2 ⟨rfl, hB2⟩
        have HK := Lib.hid (HJ.out.trans (hB2.mono HJ.out.size))
        clear hB2
        go_wp2_with fail
        go_roundw
        case rel =>
          refine ⟨j + 1, hlt, by go_num, ?_, HK.out⟩
          rw [HQ.out.2]; have := HQ.out.1; congr 1; omega
        case measure => simp [intOf]; omega
      · rw [List.take_of_length_le (by omega)]
        have HJ := Lib.hid hBj
        clear hBj
        go_wp2_with fail
        go_ret
        exact ⟨retI (by omega), HJ.out⟩
  · subst hz
    clear HC0
    go_enter Tryd.func71, Tryd.ntmps71
    go_wp2_with fail
    go_loopw [3, 12] (fun x i wr => ∃ j : Nat, j ≤ l.length ∧ i = .int .i64 j ∧ x = .int .i64 ((0 : Int) + (lvL (l.take j) : Int)) ∧ Below w.heap.size w wr) (fun _ i _ => l.length - (intOf i).toNat)
    case atStart => exact ⟨0, Nat.zero_le _, rfl, rfl, HB.out.2⟩
    case round =>
      obtain ⟨j, hj, rfl, rfl, hBj⟩ := hrel
      by_cases hlt : j < l.length
      · obtain ⟨b, off, rfl, hbb⟩ := HL.out.addr (by omega)
        obtain ⟨tk, tn, ts, tl, ta, tc, te, d0, d1, d2, d3, ht⟩ := HL.out.node' hbb hBj j hlt
        have hwr := hBj.size
        have hbw : b < wr.heap.size := by omega
        have hq1 := lvL_take hlt
        have hr1 : lvL (l.take (j + 1)) ≤ sizeL l := Nat.le_trans (lvL_le _) (sizeL_take_le (l := l) (j + 1))
        have hu1 : l[j].size ≤ 1000000000 := by have := size_mem (List.getElem_mem hlt); omega
        have B1 := hBj.trans (below_a1 hBj.size (.cells #[.int .i64 tk, .int .i64 tn, .string ts, .slice ta tl.length tc] 25))
        have hc := HI.out _ (List.getElem_mem hlt) _ _ (ht.up B1 B1.size) hu1
        generalize hA : lvL (l.take (j + 1)) = A at *
        generalize lvL (l.take j) = A0 at *
        generalize lvT l[j] = A1 at *
        have HQ := Lib.hid (And.intro hq1 hA)
        have hle : (A0 : Int) + A1 ≤ 1000000000 := by omega
        have hnn : 0 ≤ (A0 : Int) ∧ 0 ≤ (A1 : Int) := by omega
        have HC := Lib.hid hc
        have HJ := Lib.hid B1
        clear te hBj hq1 hA hc B1
        go_wp2_with fail
        refine HC.out.mono ?_
        rintro e w2 ⟨rfl, hB2⟩
        have HK := Lib.hid (HJ.out.trans (hB2.mono HJ.out.size))
        clear hB2
        go_wp2_with fail
        go_roundw
        case rel =>
          refine ⟨j + 1, hlt, by go_num, ?_, HK.out⟩
          rw [HQ.out.2]; have := HQ.out.1; congr 1; omega
        case measure => simp [intOf]; omega
      · rw [List.take_of_length_le (by omega)]
        have HJ := Lib.hid hBj
        clear hBj
        go_wp2_with fail
        go_ret
        exact ⟨retI (by omega), HJ.out⟩

/-- Block b is a map that says true of the numbers of S alone, and has as many entries. -/
def addI (S : List Int) (x : Int) : List Int := if x ∈ S then S else S ++ [x]
def SetM (W : World) (b n : Nat) (S : List Int) : Prop := ∃ D : DataW Unit, W.ownsMap Tryd.prog 3 (plainElem Tryd.prog 4) b n D ∧ Tidy D ∧ Maps.size D = S.length ∧ ∀ x, okI x → has D (.int .i64 x) = decide (x ∈ S) ∧ D.atKey (.int .i64 x) (.lit (.bool false)) = .lit (.bool (decide (x ∈ S)))
theorem SetM.made (w : World) : SetM (w.alloc (.map #[] 0)) w.heap.size 0 [] := ⟨_, World.ownsMap_made w _ _ _, tidy_empty, rfl, fun x _ => ⟨by simp [has_eq], by simp [DataW.atKey]⟩⟩
theorem SetM.lt {W : World} {b n : Nat} {S : List Int} (h : SetM W b n S) : b < W.heap.size := by obtain ⟨D, h, _⟩ := h; exact h.lt
theorem SetM.kept {W W' : World} {b n : Nat} {S : List Int} {row : Option Nat} (h : SetM W b n S) (hg : W.grownBy W' row) (hne : some b ≠ row) : SetM W' b n S := by
  obtain ⟨D, h, hf⟩ := h; exact ⟨D, h.kept hg hne, hf⟩
theorem SetM.keep {W W' : World} {b n : Nat} {S : List Int} (h : SetM W b n S) (B : Below W.heap.size W W') : SetM W' b n S := h.kept (grown_b none B) (by simp)
theorem SetM.look {W : World} {b n : Nat} {S : List Int} (h : SetM W b n S) {x : Int} (hx : okI x) : (Instr.lookup 81 (.map (some b)) (.int .i64 x) false).run Tryd.prog W = .ok (.bool (decide (x ∈ S))) W := by
  obtain ⟨D, h, _, _, hf⟩ := h
  obtain ⟨v, ps, hr, hv⟩ := h.lookup keyI Tryd.underlying81 (zeroB W) (plainElem_bool Tryd.underlying4 false) (keyOf_int_mk Tryd.underlying3 (wfI hx))
  obtain ⟨c, rfl, hc⟩ := plainElem_bool_inv hv
  rw [(hf x hx).2] at hc
  cases hc
  exact hr
theorem SetM.put {W : World} {b n : Nat} {S : List Int} (h : SetM W b n S) (hn : n < maxLen) {x : Int} (hx : okI x) : ∃ w', (Instr.mapUpdate 81 (.map (some b)) (.int .i64 x) (.bool true)).run Tryd.prog W = .ok () w' ∧ SetM w' b (n + 1) (addI S x) ∧ W.grownBy w' (some b) := by
  obtain ⟨D, h, ht, hs, hf⟩ := h
  obtain ⟨w', hr, h2, hg⟩ := h.update keyI Tryd.underlying81 hn (keyOf_int_mk Tryd.underlying3 (wfI hx)) (plainElem_bool Tryd.underlying4 true)
  have hk : WideAt.IsKeyLit (Lit.int .i64 x) := by simp [WideAt.IsKeyLit]
  have hm : ∀ y, y ∈ addI S x ↔ y ∈ S ∨ y = x := fun y => by
    unfold addI
    split
    · rename_i hx
      exact ⟨.inl, fun h => h.elim id (fun e => e ▸ hx)⟩
    · simp
  refine ⟨w', hr, ⟨_, h2, ht.put hk _, ?_, fun y hy => ?_⟩, hg⟩
  · rw [size_put ht, (hf x hx).1, hs, addI]
    by_cases hxs : x ∈ S <;> simp [hxs]
  · by_cases e : y = x
    · subst e
      rw [has_put_same ht.isMap hk, atKey_put_same ht.isMap hk]
      simp [hm]
    · rw [has_put_other (fun h => by cases h; exact e rfl), atKey_put_other (fun h => by cases h; exact e rfl), (hf y hy).1, (hf y hy).2]
      simp [hm, e]
theorem SetM.not_box {W : World} {b n B : Nat} {S : List Int} {cs : Array Value} {t : TypeId} (h : SetM W b n S) (hB : Box W B cs t) : B ≠ b := fun e => by
  subst e
  obtain ⟨D, ⟨es, clock, hm, _⟩, _⟩ := h
  rw [show W.heap[_]? = some _ from hB] at hm
  cases hm
theorem addI_nodup {S : List Int} {x : Int} (h : S.Nodup) : (addI S x).Nodup := by
  unfold addI
  split
  · exact h
  · rename_i hx
    rw [List.nodup_append]
    exact ⟨h, by simp, fun a ha b hb => by simp at hb; subst hb; exact fun e => hx (e ▸ ha)⟩
theorem addI_mem {S : List Int} {x y : Int} : y ∈ addI S x ↔ y ∈ S ∨ y = x := by
  unfold addI
  split
  · rename_i hx
    exact ⟨.inl, fun h => h.elim id (fun e => e ▸ hx)⟩
  · simp
theorem addI_length (S : List Int) (x : Int) : (addI S x).length ≤ S.length + 1 := by unfold addI; split <;> simp
def addL (S : List Int) (xs : List Int) : List Int := xs.foldl addI S
theorem addL_nodup : ∀ (xs : List Int) {S : List Int}, S.Nodup → (addL S xs).Nodup
  | [], _, h => h
  | _ :: xs, _, h => addL_nodup xs (addI_nodup h)
theorem addL_mem {y : Int} : ∀ (xs : List Int) (S : List Int), y ∈ addL S xs ↔ y ∈ S ∨ y ∈ xs
  | [], S => by simp [addL]
  | x :: xs, S => by
    rw [addL, List.foldl_cons]
    exact (addL_mem xs (addI S x)).trans (by rw [addI_mem]; simp [or_assoc])
theorem addL_take {S xs : List Int} {j : Nat} (h : j < xs.length) : addL S (xs.take (j + 1)) = addI (addL S (xs.take j)) xs[j] := by
  rw [addL, List.take_succ_eq_append_getElem h, List.foldl_append]
  rfl
theorem sub_length : ∀ {a b : List Int}, a.Nodup → (∀ x, x ∈ a → x ∈ b) → a.length ≤ b.length
  | [], _, _, _ => Nat.zero_le _
  | x :: a, b, hn, h => by
    rw [List.nodup_cons] at hn
    have hx := h x (by simp)
    have h1 := sub_length (a := a) (b := b.erase x) hn.2 fun y hy => (List.mem_erase_of_ne (fun e => hn.1 (by rw [← e]; exact hy))).2 (h y (by simp [hy]))
    rw [List.length_erase_of_mem hx] at h1
    have : 0 < b.length := List.length_pos_of_mem hx
    simp only [List.length_cons]
    omega
theorem same_length {a b : List Int} (ha : a.Nodup) (hb : b.Nodup) (h : ∀ x, x ∈ a ↔ x ∈ b) : a.length = b.length :=
  Nat.le_antisymm (sub_length ha fun x hx => (h x).1 hx) (sub_length hb fun x hx => (h x).2 hx)

set_option maxRecDepth 100000 in
set_option maxHeartbeats 1000000 in
theorem notWant_any (Bs b n : Nat) (S : List Int) (W : World) (x : Int) (hx : okI x) (hs : Box W Bs #[.map (some b)] 81) (hm : SetM W b n S) :
    Calls Tryd.prog 73 #[.int .i64 x, .pointer (some ⟨Bs, 0, none⟩)] W fun e W' => e = .returned (.bool (!decide (x ∈ S))) ∧ Below W.heap.size W W' := by
  have c := hs.cell 0
  simp only [List.getElem?_toArray, List.getElem?_cons_zero] at c
  have hl := hs.lt
  have hr := hm.look hx
  clear hs hm
  generalize decide (x ∈ S) = d at *
  go_enter Tryd.func73, Tryd.ntmps73
  go_wp2_with fail
  go_ret
  exact ⟨rfl, Below.refl _ _⟩
theorem enters_notWant : ∀ args w, (callFunc 73 args).run Tryd.prog w = .ok (.enter 73 args) w := enters_of Tryd.func73 (by kernel_rfl) rfl
set_option maxRecDepth 100000 in
set_option maxHeartbeats 1000000 in
theorem indexFuncN_any (g : Nat) (captured : Array Value) (he : ∀ args w, (callFunc g args).run Tryd.prog w = .ok (.enter g args) w) (p : Int → Bool) (ns : List Int) (a : Option Addr) (c : Nat) (w : World) (hm : ns.length ≤ maxLen) (hl : RdN w.heap.size w ns (.slice a ns.length c))
    (hM : ∀ x, x ∈ ns → ∀ (W : World), Below w.heap.size w W → Calls Tryd.prog g (#[.int .i64 x] ++ captured) W fun e W' => e = .returned (.bool (p x)) ∧ Below W.heap.size W W') :
    Calls Tryd.prog 118 #[.slice a ns.length c, .func (.func g) #[] captured] w (IdxPost (ns.any p) w) := by
  unfold maxLen at hm
  obtain ⟨a', c', e, _, hr⟩ := hl
  cases e
  have HM := Lib.hid hM
  have HR := Lib.hid hr
  have HE := Lib.hid he
  clear hM hr he
  go_enter Tryd.func118, Tryd.ntmps118
  go_wp2_with fail
  go_loopw [8] (fun i wr => ∃ j : Nat, j ≤ ns.length ∧ i = .int .i64 j ∧ (ns.take j).any p = false ∧ Below w.heap.size w wr) (fun i _ => ns.length - (intOf i).toNat)
  case atStart => exact ⟨0, Nat.zero_le _, rfl, rfl, Below.refl _ _⟩
  case round =>
    obtain ⟨j, hj, rfl, hno, hBj⟩ := hrel
    by_cases hlt : j < ns.length
    · obtain ⟨b, off, rfl, hbb, hcell⟩ := HR.out (by omega)
      have d0 := (hBj.cell (p := ⟨b, off + j, none⟩) hbb).trans (hcell j hlt)
      obtain ⟨x, hx⟩ : ∃ x, ns[j] = x := ⟨_, rfl⟩
      simp only [List.getD, List.getElem?_eq_getElem hlt, Option.getD_some, hx] at d0
      have hwr := hBj.size
      have hbw : b < wr.heap.size := by omega
      have hmem : x ∈ ns := by rw [← hx]; exact List.getElem_mem hlt
      have he := HE.out
      have HJ := Lib.hid (And.intro hno (And.intro hBj hx))
      clear hno hBj hcell hx
      go_wp2_with fail
      refine (HM.out x hmem _ HJ.out.2.1).mono ?_
      rintro e w2 ⟨rfl, hB2⟩
      have HK := Lib.hid (HJ.out.2.1.trans (hB2.mono HJ.out.2.1.size))
      clear hB2
      cases hg : p x with
      | true =>
        have Hg : Hid (ns.any p = true) := by rw [Hid, List.any_eq_true]; exact ⟨_, hmem, hg⟩
        clear hg
        go_wp2_with fail
        go_ret
        exact ⟨_, rfl, by rw [Hg.out]; simp, by omega, HK.out⟩
      | false =>
        have Hg : Hid ((ns.take (j + 1)).any p = false) := by rw [Hid, List.take_succ_eq_append_getElem hlt, List.any_append, HJ.out.1, HJ.out.2.2]; simp [hg]
        clear hg
        go_wp2_with fail
        go_roundw
        case rel => exact ⟨j + 1, hlt, by go_num, Hg.out, HK.out⟩
        case measure => simp [intOf]; omega
    · rw [List.take_of_length_le (by omega)] at hno
      have HJ := Lib.hid (And.intro hno hBj)
      clear hno hBj
      go_wp2_with fail
      go_ret
      exact ⟨-1, rfl, by rw [HJ.out.1]; rfl, by omega, HJ.out.2⟩
set_option maxRecDepth 100000 in
theorem containsFuncN_any (g : Nat) (captured : Array Value) (he : ∀ args w, (callFunc g args).run Tryd.prog w = .ok (.enter g args) w) (p : Int → Bool) (ns : List Int) (a : Option Addr) (c : Nat) (w : World) (hm : ns.length ≤ maxLen) (hl : RdN w.heap.size w ns (.slice a ns.length c))
    (hM : ∀ x, x ∈ ns → ∀ (W : World), Below w.heap.size w W → Calls Tryd.prog g (#[.int .i64 x] ++ captured) W fun e W' => e = .returned (.bool (p x)) ∧ Below W.heap.size W W') :
    Calls Tryd.prog 72 #[.slice a ns.length c, .func (.func g) #[] captured] w fun e w' => e = .returned (.bool (ns.any p)) ∧ Below w.heap.size w w' := by
  have HC := Lib.hid (indexFuncN_any g captured he p ns a c w hm hl hM)
  clear hM hl he hm
  go_enter Tryd.func72, Tryd.ntmps72
  go_wp2_with fail
  refine HC.out.mono ?_
  rintro e w1 ⟨r, rfl, hr, hr1, hB1⟩
  have HR := Lib.hid (And.intro hr hB1)
  clear hr hB1
  go_wp2_with fail
  go_ret
  exact ⟨retB HR.out.1.symm, HR.out.2⟩
end Go.Proofs.YtckoecmdaefoiaaDoor
