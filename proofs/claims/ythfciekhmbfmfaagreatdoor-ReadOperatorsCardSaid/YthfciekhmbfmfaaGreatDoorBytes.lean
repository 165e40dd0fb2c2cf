/- Bytes that are appended to, one by one or two by two, in a row of the call's own. -/
import Derived.Maps.AppendAt
import Derived.Test.YthfciekhmbfmfaaGreatDoorChars
import Derived.WalkSmall
import Derived.Deep.QuietTactic
import Derived.BigQuiet
import Derived.Deep.RegionHeld3
import Derived.Test.YthfciekhmbfmfaaGreatDoorLexF
namespace Go.Proofs.YthfciekhmbfmfaaGreatDoor
open Go.RowKit Go

theorem gr_low {n₀ : Nat} {w w' : World} {row : Option Nat} (h : w.grownBy w' row) (hn : n₀ ≤ w.heap.size) (hr : ∀ g, row = some g → n₀ ≤ g) : Below n₀ w w' :=
  ⟨h.os, h.tape, h.output, h.size, fun k hk => h.block k (by omega) (fun e => by have := hr k e.symm; omega)⟩
theorem gr_b (row : Option Nat) {w w' : World} (h : Below w.heap.size w w') : w.grownBy w' row := ⟨h.os, h.tape, h.output, h.size, fun k hk _ => h.block k hk⟩
theorem gr_drew {W w3 : World} {row : Option Nat} (h : W.drew.grownBy w3 row) : W.grownBy w3 row := ⟨h.os, h.tape, h.output, h.size, h.block⟩
def byts (l : List UInt8) : List Value := l.map fun b => .int .u8 (b.toNat : Int)
theorem byts_append (l k : List UInt8) : byts (l ++ k) = byts l ++ byts k := by simp [byts]
theorem byts_length (l : List UInt8) : (byts l).length = l.length := by simp [byts]
theorem byts_one (l : List UInt8) : ∀ u ∈ byts l, u.oneCell' = true := fun u hu => by
  simp only [byts, List.mem_map] at hu
  obtain ⟨b, _, rfl⟩ := hu
  rfl
theorem infoU8 : (Tryz.prog.info? 5).map (fun i => (i.zero, i.size, i.bytes)) = some (some (.int .u8 0), 1, 1) := by kernel_rfl
/-- A row of bytes of the call's own. -/
structure BytR (w : World) (l : List UInt8) (v : Value) (W : World) : Prop where
  own : W.ownsRow w.heap.size 5 1 v l.length (byts l)
  below : Below w.heap.size w W
theorem BytR.nil (w : World) : BytR w [] (.slice none 0 0) w := ⟨World.ownsRow_nil _ _ _ _, Below.refl _ _⟩
/-- A row that was laid just now. -/
theorem BytR.new (w : World) (l : List UInt8) (hl : l.length ≤ maxLen) : BytR w l (.slice (some ⟨w.heap.size, 0, none⟩) l.length l.length) (w.alloc (.cells (byts l).toArray 5)) :=
  ⟨⟨by simp [byts_length], .inr ⟨w.heap.size, l.length, (byts l).toArray, rfl, Nat.le_refl _, heap_alloc_new w _, Nat.le_refl _, hl, by simp [byts_length], List.take_of_length_le (by simp [byts])⟩⟩, below_a1 (Nat.le_refl _) _⟩
theorem BytR.up {w wr W : World} {l : List UInt8} {v : Value} (h : BytR w l v wr) (B : Below wr.heap.size wr W) : BytR w l v W :=
  ⟨h.own.kept (gr_b none B) (by rcases v.ownBlock with _ | _ <;> simp), h.below.trans (B.mono h.below.size)⟩
theorem BytR.len {w W : World} {l : List UInt8} {v : Value} (h : BytR w l v W) : w.heap.size ≤ W.heap.size := h.below.size
/-- Bytes are appended that lie in a block of their own. -/
theorem BytR.push {w W w3 : World} {l k : List UInt8} {v v2 : Value} {o : Obj} (h : BytR w l v W) (hown : w3.ownsRow w.heap.size 5 1 v2 (l.length + k.length) (byts l ++ byts k)) (hgrow : (W.alloc o).grownBy w3 v.ownBlock) : BytR w (l ++ k) v2 w3 := by
  refine ⟨by rw [byts_append, List.length_append]; exact hown, ?_⟩
  refine (h.below.alloc h.below.size _).trans (gr_low hgrow (by have := h.below.size; simp; omega) (fun g hg => (h.own.lt g hg).1))
/-- The row made a string. -/
theorem BytR.str {w W : World} {l : List UInt8} {v : Value} (h : BytR w l v W) : (convert 62 9 v).run Tryz.prog W = .ok (.string ⟨l.toArray⟩) W := by
  have hown := h.own
  have hh := hown
  rcases hown.2 with ⟨rfl, h0⟩ | ⟨g, cap, cur, rfl, hb, hg, h1, h2, h3, h4⟩
  · obtain rfl : l = [] := List.length_eq_zero_iff.1 h0
    rw [run_convert_bytes_string W 62 9 5 none 0 0 Tryz.underlying62 Tryz.underlying5 Tryz.underlying9]
    rfl
  · refine run_convert_bytes_back W 62 9 5 ⟨g, 0, none⟩ cap l Tryz.underlying62 Tryz.underlying5 Tryz.underlying9 (fun j hj => ?_)
    exact World.ownsRow.cells hh (g := g) rfl j _ (by simp [byts, hj])
/-- One byte, and two, that were laid just now. -/
theorem one_new (W : World) (b : UInt8) : ∀ j u, (byts [b])[j]? = some u → (W.alloc (.cells #[.int .u8 (b.toNat : Int)] 5)).cell? ((⟨W.heap.size, 0, none⟩ : Addr).add j) = some u := cell_one_new W _ _
theorem two_new (W : World) (a b : Value) (t : TypeId) : ∀ j u, [a, b][j]? = some u → (W.alloc (.cells #[a, b] t)).cell? ((⟨W.heap.size, 0, none⟩ : Addr).add j) = some u := by
  intro j u hj
  match j, hj with
  | 0, hj => simp at hj; subst hj; simp [Addr.add]
  | 1, hj => simp at hj; subst hj; simp [Addr.add]
end Go.Proofs.YthfciekhmbfmfaaGreatDoor

/- Rows of the call's own whose elements hold nothing but plain values. -/
namespace Go.Proofs.YthfciekhmbfmfaaGreatDoor
open Go.RowKit Go

theorem gr_set (B i : Nat) (w : World) (v : Value) : w.grownBy (w.setCell ⟨B, i, none⟩ v) (some B) :=
  ⟨rfl, rfl, rfl, by simp, fun k _ hk => Below.heap_setCell _ _ _ _ (fun e => hk (by rw [e]))⟩
/-- A row of elements of k cells each: f tells them. It begins at lo or behind. -/
structure OwnR {α : Type} (t : TypeId) (k : Nat) (f : α → List Value) (lo : Nat) (l : List α) (v : Value) (W : World) : Prop where
  own : W.ownsRow lo t k v l.length (l.flatMap f)
theorem OwnR.nil {α : Type} {t : TypeId} {k : Nat} {f : α → List Value} (lo : Nat) (W : World) : OwnR t k f lo [] (.slice none 0 0) W := ⟨World.ownsRow_nil _ _ _ _⟩
theorem OwnR.up {α : Type} {t : TypeId} {k : Nat} {f : α → List Value} {lo : Nat} {l : List α} {v : Value} {W W' : World} (h : OwnR t k f lo l v W) (B : Below W.heap.size W W') : OwnR t k f lo l v W' :=
  ⟨h.own.kept (gr_b none B) (by rcases v.ownBlock with _ | _ <;> simp)⟩
/-- A block below the row is written. -/
theorem OwnR.set {α : Type} {t : TypeId} {k : Nat} {f : α → List Value} {lo : Nat} {l : List α} {v : Value} {W : World} (h : OwnR t k f lo l v W) {b : Nat} (hb : b < lo) (i : Nat) (u : Value) : OwnR t k f lo l v (W.setCell ⟨b, i, none⟩ u) := by
  have hg : W.grownBy (W.setCell ⟨b, i, none⟩ u) (some b) := gr_set b i W u
  refine ⟨h.own.kept hg ?_⟩
  rcases hv : v.ownBlock with _ | j
  · exact .inl rfl
  · exact .inr fun e => by cases e; have := (h.own.lt _ hv).1; omega
theorem OwnR.push {α : Type} {t : TypeId} {k : Nat} {f : α → List Value} {lo : Nat} {l : List α} {v2 : Value} {w3 : World} (x : α) (hown : w3.ownsRow lo t k v2 (l.length + 1) (l.flatMap f ++ f x)) : OwnR t k f lo (l ++ [x]) v2 w3 :=
  ⟨by rw [List.flatMap_append, List.length_append]; simpa using hown⟩
theorem OwnR.cells {α : Type} {t : TypeId} {k : Nat} {f : α → List Value} {lo : Nat} {l : List α} {v : Value} {W : World} (h : OwnR t k f lo l v W) {g n c : Nat} (hv : v = .slice (some ⟨g, 0, none⟩) n c) {j : Nat} {u : Value} (hu : (l.flatMap f)[j]? = some u) : W.cell? ⟨g, j, none⟩ = some u := by
  have := World.ownsRow.cells h.own (g := g) (by rw [hv]; rfl) j u hu
  rwa [Addr.add_lit, Nat.zero_add] at this
end Go.Proofs.YthfciekhmbfmfaaGreatDoor

/- What ends the reading of a text: throw, reject; the bytes of a class that stand one behind the other: run. -/
namespace Go.Proofs.YthfciekhmbfmfaaGreatDoor
open Go.RowKit Go

/-- The error at a byte is thrown. -/
def thrown (a e : Int) : Ending := .panicked [{ v := .iface 125 (.agg #[.int .i64 a, .int .i64 e]), recovered := false }]
theorem throw_any (a e : Int) (w : World) : Calls Tryz.prog 97 #[.int .i64 a, .int .i64 e] w fun en w' => en = thrown a e ∧ w' = w := by
  go_enter Tryz.func97, Tryz.ntmps97
  go_wp2_with fail
  exact ⟨rfl, rfl, rfl⟩
theorem reject_any (B : Nat) (s : ByteArray) (a : Nat) (pv : Value) (w : World) (hB : Box w B #[.string s, .int .i64 a, pv] 129) : Calls Tryz.prog 147 #[.pointer (some ⟨B, 0, none⟩)] w fun en w' => en = thrown a 20 ∧ w' = w := by
  have c1 := hB.cell 1
  have l0 := hB.lt
  simp only [List.getElem?_toArray, List.getElem?_cons_succ, List.getElem?_cons_zero] at c1
  have HT := Lib.hid (fun w => throw_any (a : Int) 20 w)
  clear hB
  go_enter Tryz.func147, Tryz.ntmps147
  go_wp2_with fail
  refine (HT.out _).mono ?_
  rintro en w' ⟨rfl, rfl⟩
  exact And.intro rfl (And.intro rfl rfl)
theorem run_end (f : UInt8 → Bool) (l : List UInt8) (k : Nat) (h : l.length ≤ k) : runL f (l.drop k) = [] := by
  rw [List.drop_of_length_le h]; rfl
theorem run_stop (f : UInt8 → Bool) (l : List UInt8) (k : Nat) (h : k < l.length) (hf : f l[k] = false) : runL f (l.drop k) = [] := by
  rw [List.drop_eq_getElem_cons h, runL, List.takeWhile_cons, hf]
  rfl
theorem run_next (f : UInt8 → Bool) (l : List UInt8) (a k : Nat) (ha : a ≤ k) (h : k < l.length) (hf : f l[k] = true) (hr : runL f (l.drop a) = (l.drop a).take (k - a) ++ runL f (l.drop k)) : runL f (l.drop a) = (l.drop a).take (k + 1 - a) ++ runL f (l.drop (k + 1)) := by
  rw [hr, List.drop_eq_getElem_cons h, runL, List.takeWhile_cons, if_pos hf]
  have h1 : k - a < (l.drop a).length := by simp; omega
  rw [show k + 1 - a = (k - a) + 1 by omega, List.take_succ_eq_append_getElem h1]
  simp only [List.append_assoc, List.singleton_append, List.getElem_drop, runL]
  congr 3
  simp [show a + (k - a) = k by omega]
theorem extract_list (s : ByteArray) (a k : Nat) : (s.extract a k).data.toList = (s.data.toList.drop a).take (k - a) := by
  simp [ByteArray.data_extract, Array.toList_extract, List.extract]
theorem bytes_eq {x y : ByteArray} (h : x.data.toList = y.data.toList) : x = y := by
  apply ByteArray.ext
  exact Array.toList_inj.1 h
theorem dn_below (w : World) (n : Nat) : Below w.heap.size w (w.drewN n) := ⟨rfl, rfl, rfl, Nat.le_refl _, fun _ _ => rfl⟩
theorem run_str {f : UInt8 → Bool} {s : ByteArray} {a k : Nat} (h : runL f (s.data.toList.drop a) = (s.data.toList.drop a).take (k - a) ++ runL f (s.data.toList.drop k)) (h2 : runL f (s.data.toList.drop k) = []) : s.extract a k = ⟨(runL f (s.data.toList.drop a)).toArray⟩ := by
  apply bytes_eq
  rw [extract_list, h, h2, List.append_nil]
set_option maxRecDepth 100000 in
set_option maxHeartbeats 2000000 in
theorem runNamed_any (B : Nat) (s : ByteArray) (a : Nat) (pv : Value) (w : World) (hB : Box w B #[.string s, .int .i64 a, pv] 129) (ha : a ≤ s.size) (hs : s.size ≤ 1000000) :
    Calls Tryz.prog 186 #[.pointer (some ⟨B, 0, none⟩), .func (.func 178) #[] #[]] w fun e w' => e = .returned (.string ⟨(runL naB (s.data.toList.drop a)).toArray⟩) ∧ Below w.heap.size w w' := by
  have c0 := hB.cell 0
  have c1 := hB.cell 1
  have l0 := hB.lt
  simp only [List.getElem?_toArray, List.getElem?_cons_succ, List.getElem?_cons_zero] at c0 c1
  have hent : ∀ args w, (callFunc 178 args).run Tryz.prog w = .ok (.enter 178 args) w := enters_of Tryz.func178 (by kernel_rfl) rfl
  have HC := Lib.hid (fun (c : UInt8) w => isNamed_any (c.toNat : Int) w)
  clear hB
  go_enter Tryz.func186, Tryz.ntmps186
  go_wp2_with fail
  go_loopw [5] (fun iv wr => ∃ k : Nat, a ≤ k ∧ k ≤ s.size ∧ iv = .int .i64 k ∧ wr = w ∧ Hid (runL naB (s.data.toList.drop a) = (s.data.toList.drop a).take (k - a) ++ runL naB (s.data.toList.drop k))) (fun iv _ => s.size - (intOf iv).toNat)
  case atStart => exact ⟨a, Nat.le_refl _, ha, rfl, rfl, by simp [Hid]⟩
  case round =>
    obtain ⟨k, hak, hk, rfl, rfl, hH⟩ := hrel
    by_cases hlt : k < s.size
    · have hl : k < s.data.toList.length := by simpa using hlt
      have hg : s.data.toList[k] = s[k] := by simp; rfl
      have HG := Lib.hid hg
      clear hg
      go_wp2_with fail
      refine (HC.out s[k] _).mono ?_
      rintro e wr ⟨rfl, rfl⟩
      cases hb : namedB s[k].toNat with
      | true =>
        have HN : Hid (runL naB (s.data.toList.drop a) = (s.data.toList.drop a).take (k + 1 - a) ++ runL naB (s.data.toList.drop (k + 1))) := run_next naB _ a k hak hl (by rw [HG.out]; exact hb) hH.out
        clear hb
        go_wp2_with fail
        go_roundw
        case rel => exact ⟨k + 1, by omega, hlt, by go_num, by trivial, HN⟩
        case measure => simp [intOf]; omega
      | false =>
        have HE : Hid (s.extract a k = ⟨(runL naB (s.data.toList.drop a)).toArray⟩) := run_str hH.out (run_stop naB _ k hl (by rw [HG.out]; exact hb))
        clear hb
        go_wp2_with fail
        go_quiet (fail)
        go_wp2_with fail
        go_ret
        exact ⟨by rw [← HE.out]; rfl, dn_below _ _⟩
    · have HE : Hid (s.extract a k = ⟨(runL naB (s.data.toList.drop a)).toArray⟩) := run_str hH.out (run_end naB _ k (by simp; omega))
      go_wp2_with fail
      go_quiet (fail)
      go_wp2_with fail
      go_ret
      exact ⟨by rw [← HE.out]; rfl, dn_below _ _⟩
set_option maxRecDepth 100000 in
set_option maxHeartbeats 2000000 in
theorem runSymbol_any (B : Nat) (s : ByteArray) (a : Nat) (pv : Value) (w : World) (hB : Box w B #[.string s, .int .i64 a, pv] 129) (ha : a ≤ s.size) (hs : s.size ≤ 1000000) :
    Calls Tryz.prog 186 #[.pointer (some ⟨B, 0, none⟩), .func (.func 141) #[] #[]] w fun e w' => e = .returned (.string ⟨(runL syB (s.data.toList.drop a)).toArray⟩) ∧ Below w.heap.size w w' := by
  have c0 := hB.cell 0
  have c1 := hB.cell 1
  have l0 := hB.lt
  simp only [List.getElem?_toArray, List.getElem?_cons_succ, List.getElem?_cons_zero] at c0 c1
  have hent : ∀ args w, (callFunc 141 args).run Tryz.prog w = .ok (.enter 141 args) w := enters_of Tryz.func141 (by kernel_rfl) rfl
  have HC := Lib.hid (fun (c : UInt8) w => isSymbol_any c w)
  clear hB
  go_enter Tryz.func186, Tryz.ntmps186
  go_wp2_with fail
  go_loopw [5] (fun iv wr => ∃ k : Nat, a ≤ k ∧ k ≤ s.size ∧ iv = .int .i64 k ∧ wr = w ∧ Hid (runL syB (s.data.toList.drop a) = (s.data.toList.drop a).take (k - a) ++ runL syB (s.data.toList.drop k))) (fun iv _ => s.size - (intOf iv).toNat)
  case atStart => exact ⟨a, Nat.le_refl _, ha, rfl, rfl, by simp [Hid]⟩
  case round =>
    obtain ⟨k, hak, hk, rfl, rfl, hH⟩ := hrel
    by_cases hlt : k < s.size
    · have hl : k < s.data.toList.length := by simpa using hlt
      have hg : s.data.toList[k] = s[k] := by simp; rfl
      have HG := Lib.hid hg
      clear hg
      go_wp2_with fail
      refine (HC.out s[k] _).mono ?_
      rintro e wr ⟨rfl, rfl⟩
      cases hb : symbolB s[k].toNat with
      | true =>
        have HN : Hid (runL syB (s.data.toList.drop a) = (s.data.toList.drop a).take (k + 1 - a) ++ runL syB (s.data.toList.drop (k + 1))) := run_next syB _ a k hak hl (by rw [HG.out]; exact hb) hH.out
        clear hb
        go_wp2_with fail
        go_roundw
        case rel => exact ⟨k + 1, by omega, hlt, by go_num, by trivial, HN⟩
        case measure => simp [intOf]; omega
      | false =>
        have HE : Hid (s.extract a k = ⟨(runL syB (s.data.toList.drop a)).toArray⟩) := run_str hH.out (run_stop syB _ k hl (by rw [HG.out]; exact hb))
        clear hb
        go_wp2_with fail
        go_quiet (fail)
        go_wp2_with fail
        go_ret
        exact ⟨by rw [← HE.out]; rfl, dn_below _ _⟩
    · have HE : Hid (s.extract a k = ⟨(runL syB (s.data.toList.drop a)).toArray⟩) := run_str hH.out (run_end syB _ k (by simp; omega))
      go_wp2_with fail
      go_quiet (fail)
      go_wp2_with fail
      go_ret
      exact ⟨by rw [← HE.out]; rfl, dn_below _ _⟩
end Go.Proofs.YthfciekhmbfmfaaGreatDoor
