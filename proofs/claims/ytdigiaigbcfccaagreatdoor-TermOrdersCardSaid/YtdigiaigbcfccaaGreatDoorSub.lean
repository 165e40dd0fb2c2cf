import Derived.Test.YtdigiaigbcfccaaGreatDoorCopy
import Derived.Test.YtdigiaigbcfccaaGreatDoorCheck
namespace Go.Proofs.YtdigiaigbcfccaaGreatDoor
open Go.RowKit Go

def freeB (k n : Int) (s : ByteArray) (len : Nat) : Bool := decide (k = 0) && decide (n = 0) && decide (s.toList = []) && decide (len = 0)
def Tr.free : Tr → Bool
  | .node k n s l => freeB k n s l.length

set_option maxHeartbeats 1000000 in
theorem isFree_any (k n : Int) (s : ByteArray) (len : Nat) (a : Option Addr) (c : Nat) (w : World) (_hm : len ≤ maxLen) :
    Calls Tryz.prog 79 #[.agg #[.int .i64 k, .int .i64 n, .string s, .slice a len c]] w fun e w' => e = .returned (.bool (freeB k n s len)) ∧ Below w.heap.size w w' := by
  unfold maxLen at _hm
  go_enter Tryz.func79, Tryz.ntmps79
  go_wp2_with fail
  all_goals
    go_ret
    refine ⟨retB ?_, below_box1 _ _⟩
    rw [Bool.eq_iff_iff]
    simp [freeB, *]
    try omega

/-- The extent that is noted of an element of a substitution. -/
def exN (t : Tr) : Nat := if t.free then 0 else t.size
def exD (t : Tr) : Nat := if t.free then 0 else t.deep
def subOkB (l : List Tr) : Bool := decide (l.length ≤ 100000) && l.all (fun t => t.free || isB t)

/-- The extents of the first elements. -/
def Exts (cs : Array Value) (l : List Tr) : Prop := ∀ i (hi : i < l.length), cs[i * 2]? = some (.int .i64 (exN l[i])) ∧ cs[i * 2 + 1]? = some (.int .i64 (exD l[i]))
theorem Exts.snoc {cs : Array Value} {l : List Tr} {t : Tr} (h : Exts cs l) (hsz : l.length * 2 + 2 ≤ cs.size) :
    Exts ((cs.setIfInBounds (l.length * 2) (.int .i64 (exN t))).setIfInBounds (l.length * 2 + 1) (.int .i64 (exD t))) (l ++ [t]) := fun i hi => by
  simp only [List.length_append, List.length_cons, List.length_nil] at hi
  by_cases hlt : i < l.length
  · obtain ⟨c0, c1⟩ := h i hlt
    rw [List.getElem_append_left hlt]
    refine ⟨?_, ?_⟩
    · rw [Array.getElem?_setIfInBounds_ne (by omega), Array.getElem?_setIfInBounds_ne (by omega), c0]
    · rw [Array.getElem?_setIfInBounds_ne (by omega), Array.getElem?_setIfInBounds_ne (by omega), c1]
  · have e : i = l.length := by omega
    subst e
    rw [List.getElem_append_right (Nat.le_refl _)]
    refine ⟨?_, ?_⟩
    · rw [Array.getElem?_setIfInBounds_ne (by omega), Array.getElem?_setIfInBounds_self_of_lt (by omega)]; simp
    · rw [Array.getElem?_setIfInBounds_self_of_lt (by simp; omega)]; simp
/-- Where the element is free, its cells stay. -/
theorem Exts.snoc_free {cs : Array Value} {l : List Tr} {t : Tr} (h : Exts cs l) (ht : t.free = true) (h0 : cs[l.length * 2]? = some (.int .i64 0)) (h1 : cs[l.length * 2 + 1]? = some (.int .i64 0)) : Exts cs (l ++ [t]) := fun i hi => by
  simp only [List.length_append, List.length_cons, List.length_nil] at hi
  by_cases hlt : i < l.length
  · rw [List.getElem_append_left hlt]; exact h i hlt
  · have e : i = l.length := by omega
    subst e
    rw [List.getElem_append_right (Nat.le_refl _)]
    simp only [Nat.sub_self, List.getElem_cons_zero, exN, exD, ht, if_true]
    exact ⟨h0, h1⟩

/-- A substitution: its terms, and their extents. -/
def IsSub (n₀ : Nat) (W : World) (l : List Tr) (v : Value) : Prop :=
  ∃ (a : Option Addr) (c b : Nat) (cs : Array Value), v = .agg #[.slice a l.length c, .slice (some ⟨b, 0, none⟩) l.length l.length] ∧ l.length ≤ c ∧ c ≤ maxLen ∧ IsL n₀ W l a ∧ b < n₀ ∧ Box W b cs 92 ∧ Exts cs l

theorem infoExt : (Tryz.prog.info? 92).map (fun i => (i.zero, i.size, i.bytes)) = some (some (.agg #[.int .i64 0, .int .i64 0]), 2, 16) := by kernel_rfl
theorem mk_exts (n : Nat) (h : n ≤ 1000000) (W : World) : (Instr.makeSlice 86 (.int .i64 n) (.int .i64 n)).run Tryz.prog W = .ok (.slice (some ⟨W.heap.size, 0, none⟩) n n) (W.alloc (.cells (madeCells #[.int .i64 0, .int .i64 0] (n * 2)) 92)) := by
  obtain ⟨i0, hi, hz0, hz1, hz2⟩ := info_parts infoExt
  have := run_make (P := Tryz.prog) W 86 92 i0 _ Tryz.underlying86 hi hz0 .i64 .i64 n n (by omega) (by omega) (by rw [hz2]; omega) (by omega)
  rw [this, hz1]
  rfl
theorem made_zero (n i : Nat) (h : i < n * 2) : (madeCells #[.int .i64 0, .int .i64 0] (n * 2))[i]? = some (Value.int .i64 0) := by
  have : i % 2 = 0 ∨ i % 2 = 1 := by omega
  simp [madeCells, h]
  rcases this with e | e <;> simp [e]

def SubPost (l : List Tr) (w : World) (e : Ending) (w' : World) : Prop := Below w.heap.size w w' ∧
      ((subOkB l = true ∧ ∃ v, e = .returned (.tuple #[v, .bool true]) ∧ IsSub w'.heap.size w' l v) ∨ (subOkB l = false ∧ e = .returned (.tuple #[.agg #[.slice none 0 0, .slice none 0 0], .bool false])))

set_option maxRecDepth 100000 in
set_option maxHeartbeats 2000000 in
theorem newSub_any (l : List Tr) (a : Option Addr) (c : Nat) (w : World) (hm : l.length ≤ 1000000) (h4 : l.length ≤ c) (h5 : c ≤ maxLen) (hl : IsL w.heap.size w l a) (hdp : ∀ t, t ∈ l → t.deep ≤ 999999999) :
    Calls Tryz.prog 48 #[.slice a l.length c] w (SubPost l w) := by
  have HD := Lib.hid hdp
  clear hdp
  by_cases hbig : l.length ≤ 100000
  · have hmk := fun W => mk_exts l.length hm W
    by_cases h0 : 0 < l.length
    · obtain ⟨b, off, rfl, hb⟩ := hl.addr h0
      go_enter Tryz.func48, Tryz.ntmps48
      go_wp2_with fail
      clear hmk
      go_loopw [20] (fun i wr => ∃ (k : Nat) (cs : Array Value), k ≤ l.length ∧ i = .int .i64 k ∧ Box wr (w.heap.size + 1) cs 92 ∧ cs.size = l.length * 2 ∧ Exts cs (l.take k) ∧ (∀ j, k * 2 ≤ j → j < l.length * 2 → cs[j]? = some (.int .i64 0)) ∧ (l.take k).all (fun t => t.free || isB t) = true ∧
        Box wr w.heap.size #[.slice none 0 0, .slice none 0 0] 88 ∧ Box wr (w.heap.size + 1 + 1) #[.slice (some ⟨b, off, none⟩) l.length c, .slice (some ⟨w.heap.size + 1, 0, none⟩) l.length l.length] 88 ∧ Below w.heap.size w wr) (fun i _ => l.length - (intOf i).toNat)
      case atStart => exact ⟨0, _, Nat.zero_le _, rfl, (Box.at (by simp)).alloc _, size_madeCells _ _, fun i hi => by simp at hi, fun j _ hj => made_zero _ _ hj, rfl, ((Box.at rfl).alloc _).alloc _, Box.at (by simp), below_a3 (Nat.le_refl _) _ _ _⟩
      case round =>
        obtain ⟨k, cs, hk, rfl, hbox, hsz, hex, hz, hall, hb0, hb2, hB⟩ := hrel
        have Hex := Lib.hid hex
        have Hsz := Lib.hid hsz
        have Hz := Lib.hid hz
        have Hall := Lib.hid hall
        clear hex hsz hz hall
        have hlk : Hid ((l.take k).length = k) := by simp [Hid]; omega
        by_cases hlt : k < l.length
        · obtain ⟨tk, tn, ts, tl, ta, tc, te, c0, c1, c2, c3, ht⟩ := (hl.below hB).node k hlt
          have htl : tl.length ≤ maxLen := by
            have ht' := ht
            rw [te] at ht'
            obtain ⟨_, _, _, _, _, _, h1, h2, _⟩ := ht'.open
            omega
          have hfr : Hid (l[k].free = freeB tk tn ts tl.length) := by rw [Hid, te]; rfl
          have Te := Lib.hid te
          clear te
          have hbw : b < wr.heap.size := by have := hB.size; omega
          go_wp2_with fail
          refine (isFree_any tk tn ts tl.length ta tc _ htl).mono ?_
          rintro e w1 ⟨rfl, hB1⟩
          have hB2 := hB.trans ((below_a1 hB.size (.cells #[.int .i64 tk, .int .i64 tn, .string ts, .slice ta tl.length tc] 24)).trans (hB1.mono (size_a1 hB.size _)))
          have p1 := Box.keep hB1 (hbox.alloc _)
          have p0 := Box.keep hB1 (hb0.alloc _)
          have p2 := Box.keep hB1 (hb2.alloc _)
          have px := Box.keep hB1 (Box.at (W := wr) (cs := #[.int .i64 tk, .int .i64 tn, .string ts, .slice ta tl.length tc]) (t := 24) rfl)
          have hB1s := hB1.size
          simp only [World.size_alloc] at hB1s
          have hBelow := (below_a1 (n := w.heap.size) hB.size (.cells #[.int .i64 tk, .int .i64 tn, .string ts, .slice ta tl.length tc] 24)).trans (hB1.mono (size_a1 hB.size _))
          clear hB1 hbox hb0 hb2
          cases hfb : freeB tk tn ts tl.length with
          | true =>
            have hft : l[k].free = true := by rw [hfr.out, hfb]
            have Hn : Hid (Exts cs (l.take (k + 1))) := by
              rw [Hid, List.take_succ_eq_append_getElem hlt]
              refine Exts.snoc_free Hex.out hft ?_ ?_
              · rw [hlk.out]; exact Hz.out _ (Nat.le_refl _) (by omega)
              · rw [hlk.out]; exact Hz.out _ (by omega) (by omega)
            have Ha : Hid ((l.take (k + 1)).all (fun t => t.free || isB t) = true) := by
              rw [Hid, List.take_succ_eq_append_getElem hlt, List.all_append, Hall.out]; simp [hft]
            clear hfb hft
            go_wp2_with fail
            go_roundw
            case rel => exact ⟨k + 1, cs, hlt, by go_num, p1, Hsz.out, Hn.out, fun j h1 h2 => Hz.out j (by omega) h2, Ha.out, p0, p2, hB2⟩
            case measure => simp [intOf]; omega
          | false =>
            have hft : l[k].free = false := by rw [hfr.out, hfb]
            have Hft := Lib.hid hft
            clear hfb hft
            have x0 := px.cell 0
            have x1 := px.cell 1
            have x2 := px.cell 2
            have x3 := px.cell 3
            have pxl := px.lt
            simp only [List.getElem?_toArray, List.getElem?_cons_succ, List.getElem?_cons_zero] at x0 x1 x2 x3
            go_wp2_with fail
            refine (measure_any l[k] _ _ (ht.up hBelow hB2.size) (HD.out _ (List.getElem_mem hlt))).mono ?_
            rintro e w2 ⟨rfl, hB3⟩
            have hB4 := hB2.trans (hB3.mono hB2.size)
            have n1 := Box.keep hB3 p1
            have n0 := Box.keep hB3 p0
            have n2 := Box.keep hB3 p2
            have hB3s := hB3.size
            have q0 := n0.cell 0
            have q1 := n0.cell 1
            have r0 := n0.frozen 0
            have r1 := n0.frozen 1
            have u0 := n2.cell 0
            have u1 := n2.cell 1
            have nl0 := n0.lt
            have nl1 := n1.lt
            have nl2 := n2.lt
            simp only [List.getElem?_toArray, List.getElem?_cons_succ, List.getElem?_cons_zero] at q0 q1 u0 u1
            clear hB3 p1 p0 p2 px x0 x1 x2 x3
            cases hib : isB l[k] with
            | true =>
              have hN : measN l[k] = (exN l[k] : Nat) ∧ measD l[k] = (exD l[k] : Nat) := by simp [measN, measD, exN, exD, hib, Hft.out]
              rw [hN.1, hN.2]
              have Ha : Hid ((l.take (k + 1)).all (fun t => t.free || isB t) = true) := by
                rw [Hid, List.take_succ_eq_append_getElem hlt, List.all_append, Hall.out]; simp [hib]
              have Hn : Hid (Exts ((cs.setIfInBounds (k * 2) (.int .i64 (exN l[k]))).setIfInBounds (k * 2 + 1) (.int .i64 (exD l[k]))) (l.take (k + 1))) := by
                have := Exts.snoc (t := l[k]) Hex.out (by rw [hlk.out, Hsz.out]; omega)
                rw [hlk.out] at this
                rw [Hid, List.take_succ_eq_append_getElem hlt]
                exact this
              have v0 := (n1.cell (k * 2)).trans (Hz.out (k * 2) (Nat.le_refl _) (by omega))
              have v1 := (n1.cell (k * 2 + 1)).trans (Hz.out (k * 2 + 1) (by omega) (by omega))
              have f0 := n1.frozen (k * 2)
              have f1 := n1.frozen (k * 2 + 1)
              clear hib hN
              go_wp2_with fail
              clear v0 v1 f0 f1 q0 q1 r0 r1 u0 u1
              go_roundw
              case rel => exact ⟨k + 1, _, hlt, by go_num, ((n1.set (k * 2) _).set (k * 2 + 1) _).alloc _, by simp [Hsz.out], Hn.out, fun j h1 h2 => by
                  rw [Array.getElem?_setIfInBounds_ne (by omega), Array.getElem?_setIfInBounds_ne (by omega)]; exact Hz.out j (by omega) h2, Ha.out, ((n0.other (by omega) (k * 2) _).other (by omega) (k * 2 + 1) _).alloc _, ((n2.other (by omega) (k * 2) _).other (by omega) (k * 2 + 1) _).alloc _,
                  ((hB4.setCell (p := ⟨w.heap.size + 1, k * 2, none⟩) (by simp) _).setCell (p := ⟨w.heap.size + 1, k * 2 + 1, none⟩) (by simp) _).alloc (by simp; omega) _⟩
              case measure => simp [intOf]; omega
            | false =>
              have Hs : Hid (subOkB l = false) := by
                have : l.all (fun t => t.free || isB t) = false := by
                  rw [List.all_eq_false]; exact ⟨l[k], List.getElem_mem hlt, by simp [hib, Hft.out]⟩
                simp [Hid, subOkB, this]
              clear hib
              go_wp2_with fail
              have z := ((n0.set 0 (.slice none 0 0)).set 1 (.slice none 0 0)).alloc (.cells #[.int .i64 (measN l[k]), .int .i64 (measD l[k])] 92)
              have zB := ((hB4.setCell (p := ⟨w.heap.size, 0, none⟩) (Nat.le_refl _) (.slice none 0 0)).setCell (p := ⟨w.heap.size, 1, none⟩) (Nat.le_refl _) (.slice none 0 0)).alloc (by simp; omega) (.cells #[.int .i64 (measN l[k]), .int .i64 (measD l[k])] 92)
              have y0 := z.cell 0
              have y1 := z.cell 1
              clear z n0 n1 n2 q0 q1 r0 r1 u0 u1
              generalize World.alloc (World.setCell (World.setCell _ ⟨w.heap.size, 0, none⟩ (.slice none 0 0)) ⟨w.heap.size, 1, none⟩ (.slice none 0 0)) _ = FW at *
              simp at y0 y1
              exact bodyPost_ret (v := .tuple #[.agg #[.slice none 0 0, .slice none 0 0], .bool false]) (by simp [results, Tryz.results48, go_sem, y0, y1]) rfl ⟨zB, .inr ⟨Hs.out, rfl⟩⟩
        · have e : l.take k = l := List.take_of_length_le (by omega)
          have Hs : Hid (subOkB l = true) := by
            have := Hall.out
            rw [e] at this
            simp [Hid, subOkB, this, hbig]
          have hE := Hex.out
          rw [e] at hE
          have HE := Lib.hid hE
          have q0 := hb0.cell 0
          have q1 := hb0.cell 1
          have r0 := hb0.frozen 0
          have r1 := hb0.frozen 1
          have u0 := hb2.cell 0
          have u1 := hb2.cell 1
          have nl1 := hbox.lt
          simp only [List.getElem?_toArray, List.getElem?_cons_succ, List.getElem?_cons_zero] at q0 q1 u0 u1
          clear e hE
          go_wp2_with fail
          have z := (hb0.set 0 (.slice (some ⟨b, off, none⟩) l.length c)).set 1 (.slice (some ⟨w.heap.size + 1, 0, none⟩) l.length l.length)
          have z1 := (hbox.other (B' := w.heap.size) (by omega) 0 (.slice (some ⟨b, off, none⟩) l.length c)).other (B' := w.heap.size) (by omega) 1 (.slice (some ⟨w.heap.size + 1, 0, none⟩) l.length l.length)
          have zB := (hB.setCell (p := ⟨w.heap.size, 0, none⟩) (Nat.le_refl _) (.slice (some ⟨b, off, none⟩) l.length c)).setCell (p := ⟨w.heap.size, 1, none⟩) (Nat.le_refl _) (.slice (some ⟨w.heap.size + 1, 0, none⟩) l.length l.length)
          have y0 := z.cell 0
          have y1 := z.cell 1
          clear z hb0 hb2 hbox q0 q1 r0 r1 u0 u1
          generalize World.setCell (World.setCell _ ⟨w.heap.size, 0, none⟩ (.slice (some ⟨b, off, none⟩) l.length c)) ⟨w.heap.size, 1, none⟩ (.slice (some ⟨w.heap.size + 1, 0, none⟩) l.length l.length) = FW at *
          simp at y0 y1
          exact bodyPost_ret (v := .tuple #[.agg #[.slice (some ⟨b, off, none⟩) l.length c, .slice (some ⟨w.heap.size + 1, 0, none⟩) l.length l.length], .bool true]) (by simp [results, Tryz.results48, go_sem, y0, y1]) rfl ⟨zB, .inl ⟨Hs.out, _, rfl, _, _, _, _, rfl, h4, h5, hl.up zB zB.size, z1.lt, z1, HE.out⟩⟩
    · have e1 : l = [] := List.length_eq_zero_iff.1 (by omega)
      subst e1
      clear h0
      have Hs : Hid (subOkB [] = true) := by simp [Hid, subOkB]
      have hmk0 : ∀ W : World, (Instr.makeSlice 86 (.int .i64 0) (.int .i64 0)).run Tryz.prog W = .ok (.slice (some ⟨W.heap.size, 0, none⟩) 0 0) (W.alloc (.cells (madeCells #[.int .i64 0, .int .i64 0] (0 * 2)) 92)) := fun W => mk_exts 0 (by omega) W
      obtain ⟨cs, hcs⟩ : ∃ cs, madeCells #[Value.int .i64 0, .int .i64 0] (0 * 2) = cs := ⟨_, rfl⟩
      rw [hcs] at hmk0
      clear hmk hm hcs
      simp only [List.length_nil]
      go_enter Tryz.func48, Tryz.ntmps48
      go_wp2_with fail
      clear hmk0
      refine wp_loop_rounds 1 ?_
      rw [rounds_succ]
      have hbox : Box (((w.alloc (.cells #[.slice none 0 0, .slice none 0 0] 88)).alloc (.cells cs 92)).alloc (.cells #[.slice a 0 c, .slice (some ⟨w.heap.size + 1, 0, none⟩) 0 0] 88)) (w.heap.size + 1) cs 92 := (Box.at (by simp)).alloc _
      have hb0 : Box (((w.alloc (.cells #[.slice none 0 0, .slice none 0 0] 88)).alloc (.cells cs 92)).alloc (.cells #[.slice a 0 c, .slice (some ⟨w.heap.size + 1, 0, none⟩) 0 0] 88)) w.heap.size #[.slice none 0 0, .slice none 0 0] 88 := ((Box.at rfl).alloc _).alloc _
      have hB := below_a3 (Nat.le_refl w.heap.size) (.cells #[.slice none 0 0, .slice none 0 0] 88) (.cells cs 92) (.cells #[.slice a 0 c, .slice (some ⟨w.heap.size + 1, 0, none⟩) 0 0] 88)
      have hb2 : Box (((w.alloc (.cells #[.slice none 0 0, .slice none 0 0] 88)).alloc (.cells cs 92)).alloc (.cells #[.slice a 0 c, .slice (some ⟨w.heap.size + 1, 0, none⟩) 0 0] 88)) (w.heap.size + 1 + 1) #[.slice a 0 c, .slice (some ⟨w.heap.size + 1, 0, none⟩) 0 0] 88 := Box.at (by simp)
      generalize ((w.alloc (.cells #[.slice none 0 0, .slice none 0 0] 88)).alloc (.cells cs 92)).alloc (.cells #[.slice a 0 c, .slice (some ⟨w.heap.size + 1, 0, none⟩) 0 0] 88) = W3 at *
      have q0 := hb0.cell 0
      have q1 := hb0.cell 1
      have r0 := hb0.frozen 0
      have r1 := hb0.frozen 1
      have u0 := hb2.cell 0
      have u1 := hb2.cell 1
      simp only [List.getElem?_toArray, List.getElem?_cons_succ, List.getElem?_cons_zero] at q0 q1 u0 u1
      go_wp2_with fail
      have z := (hb0.set 0 (.slice a 0 c)).set 1 (.slice (some ⟨w.heap.size + 1, 0, none⟩) 0 0)
      have z1 := (hbox.other (B' := w.heap.size) (by omega) 0 (.slice a 0 c)).other (B' := w.heap.size) (by omega) 1 (.slice (some ⟨w.heap.size + 1, 0, none⟩) 0 0)
      have zB := (hB.setCell (p := ⟨w.heap.size, 0, none⟩) (Nat.le_refl _) (.slice a 0 c)).setCell (p := ⟨w.heap.size, 1, none⟩) (Nat.le_refl _) (.slice (some ⟨w.heap.size + 1, 0, none⟩) 0 0)
      have y0 := z.cell 0
      have y1 := z.cell 1
      clear z hb0 hb2 hbox q0 q1 r0 r1 u0 u1
      generalize World.setCell (World.setCell _ ⟨w.heap.size, 0, none⟩ (.slice a 0 c)) ⟨w.heap.size, 1, none⟩ (.slice (some ⟨w.heap.size + 1, 0, none⟩) 0 0) = FW at *
      simp at y0 y1
      exact bodyPost_ret (v := .tuple #[.agg #[.slice a 0 c, .slice (some ⟨w.heap.size + 1, 0, none⟩) 0 0], .bool true]) (by simp [results, Tryz.results48, go_sem, y0, y1]) rfl ⟨zB, .inl ⟨Hs.out, _, rfl, a, c, w.heap.size + 1, cs, rfl, h4, h5, IsL.nil, z1.lt, z1, fun i hi => by simp at hi⟩⟩
  · have Hs : Hid (subOkB l = false) := by simp [Hid, subOkB, hbig]
    go_enter Tryz.func48, Tryz.ntmps48
    go_wp2_with fail
    have z : Box (w.alloc (.cells #[.slice none 0 0, .slice none 0 0] 88)) w.heap.size #[.slice none 0 0, .slice none 0 0] 88 := Box.at rfl
    have y0 := z.cell 0
    have y1 := z.cell 1
    have zB := below_box1 w (.cells #[.slice none 0 0, .slice none 0 0] 88)
    generalize w.alloc (.cells #[.slice none 0 0, .slice none 0 0] 88) = FW at *
    simp at y0 y1
    exact bodyPost_ret (v := .tuple #[.agg #[.slice none 0 0, .slice none 0 0], .bool false]) (by simp [results, Tryz.results48, go_sem, y0, y1]) rfl ⟨zB, .inr ⟨Hs.out, rfl⟩⟩
end Go.Proofs.YtdigiaigbcfccaaGreatDoor
