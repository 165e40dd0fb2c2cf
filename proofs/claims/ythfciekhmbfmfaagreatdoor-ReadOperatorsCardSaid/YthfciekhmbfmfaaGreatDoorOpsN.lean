/- The table of operators. -/
import Derived.Test.YthfciekhmbfmfaaGreatDoorOpsM
namespace Go.Proofs.YthfciekhmbfmfaaGreatDoor
open Go.RowKit Go Go.Maps

/-- What a list of names and operators says of a name: the last one with it. -/
def tabF (l : List (ByteArray × Op3)) (k : List UInt8) : Option Op3 := (l.reverse.find? fun x => x.1.data.toList == k).map (·.2)
theorem tabF_nil : tabF [] = fun _ => none := by funext k; simp [tabF]
theorem tabF_put (l : List (ByteArray × Op3)) (key : ByteArray) (o : Op3) : opPut (tabF l) key.data.toList o = tabF (l ++ [(key, o)]) := by
  funext k
  by_cases h : k = key.data.toList
  · subst h; simp [opPut, tabF]
  · have h2 : (key.data.toList == k) = false := by rw [beq_eq_false_iff_ne]; exact fun e => h e.symm
    simp [opPut, tabF, h, h2]
theorem OpsAt.add {W : World} {b n : Nat} {l : List (ByteArray × Op3)} (h : OpsAt W b n (tabF l)) (hn : n < maxLen) (key : ByteArray) (hk : key.size ≤ maxLen) (x y z : Int) :
    ∃ w', (Instr.mapUpdate 111 (.map (some b)) (.string key) (.agg #[.int .i64 x, .int .i64 y, .int .i64 z])).run Tryz.prog W = .ok () w' ∧ OpsAt w' b (n + 1) (tabF (l ++ [(key, (x, y, z))])) ∧ W.grownBy w' (some b) := by
  obtain ⟨w', h1, h2, h3⟩ := h.put hn key hk (x, y, z)
  rw [tabF_put] at h2
  exact ⟨w', h1, h2, h3⟩
theorem OpsAt.new (w : World) : OpsAt (w.alloc (.map #[] 0)) w.heap.size 0 (tabF []) := by rw [tabF_nil]; exact OpsAt.made w
def nm (l : List UInt8) : ByteArray := ⟨l.toArray⟩
def ops4 : List (ByteArray × Op3) := [(⟨#[58, 45]⟩, (1200, 1199, 1199)), (⟨#[124]⟩, (1100, 1099, 1100)), (⟨#[44]⟩, (1000, 999, 1000)), (⟨#[64]⟩, (900, 899, 899))]
def nms7 : List ByteArray := [⟨#[61]⟩, ⟨#[61, 61]⟩, ⟨#[92, 61, 61]⟩, ⟨#[61, 58, 61]⟩, ⟨#[61, 92, 61]⟩, ⟨#[60]⟩, ⟨#[61, 60]⟩, ⟨#[62]⟩, ⟨#[62, 61]⟩, ⟨#[58, 61]⟩]
def nms5 : List ByteArray := [⟨#[43]⟩, ⟨#[45]⟩]
def nms4 : List ByteArray := [⟨#[42]⟩, ⟨#[47]⟩, ⟨#[109, 111, 100]⟩]
def opsI : List (ByteArray × Op3) := ops4 ++ nms7.map (fun s => (s, (700, 699, 699))) ++ nms5.map (fun s => (s, (500, 500, 499))) ++ nms4.map (fun s => (s, (400, 400, 399)))
def opsP : List (ByteArray × Op3) := [(⟨#[58, 45]⟩, (1200, 0, 1199)), (⟨#[45]⟩, (200, 0, 200))]
theorem nms_size (l : List ByteArray) (h : (l.all fun s => decide (s.size ≤ 100)) = true) (j : Nat) (hj : j < l.length) : l[j].size ≤ maxLen := by
  have := of_decide_eq_true (List.all_eq_true.1 h _ (List.getElem_mem hj))
  unfold maxLen
  omega
/-- The table: two maps, apart. -/
def OpsTwo (lo : Nat) (W : World) (b1 b2 : Nat) : Prop := lo ≤ b1 ∧ lo ≤ b2 ∧ b1 ≠ b2 ∧ (∃ n, OpsAt W b1 n (tabF opsI)) ∧ ∃ n, OpsAt W b2 n (tabF opsP)
def OpsPost (w : World) (e : Ending) (w' : World) : Prop := ∃ b1 b2, e = .returned (.agg #[.map (some b1), .map (some b2)]) ∧ OpsTwo w.heap.size w' b1 b2 ∧ Below w.heap.size w w'

/-- The table between two names. -/
structure TabAt (w : World) (b1 b2 B1 Bn : Nat) (ns : List ByteArray) (l : List (ByteArray × Op3)) (n : Nat) (W : World) : Prop where
  inf : OpsAt W b1 n (tabF l)
  pre : OpsAt W b2 2 (tabF opsP)
  tab : Box W B1 #[.map (some b1), .map (some b2)] 113
  out : Box W w.heap.size #[.map none, .map none] 113
  nms : Box W Bn (ns.map Value.string).toArray 9
  ne : b1 ≠ b2
  lo1 : w.heap.size ≤ b1
  lo2 : w.heap.size ≤ b2
  below : Below w.heap.size w W
theorem TabAt.add {w : World} {b1 b2 B1 Bn : Nat} {ns : List ByteArray} {l : List (ByteArray × Op3)} {n : Nat} {W : World} (h : TabAt w b1 b2 B1 Bn ns l n W) (hn : n < maxLen) (key : ByteArray) (hk : key.size ≤ maxLen) (x y z : Int) :
    ∃ w', (Instr.mapUpdate 111 (.map (some b1)) (.string key) (.agg #[.int .i64 x, .int .i64 y, .int .i64 z])).run Tryz.prog W = .ok () w' ∧ TabAt w b1 b2 B1 Bn ns (l ++ [(key, (x, y, z))]) (n + 1) w' ∧ W.heap.size ≤ w'.heap.size := by
  obtain ⟨w', h1, h2, h3⟩ := h.inf.add hn key hk x y z
  have hb : ∀ {B : Nat} {cs : Array Value} {t : TypeId}, Box W B cs t → Box w' B cs t := fun hB => (h3.block _ (Array.getElem?_eq_some_iff.1 hB).1 (by simpa using h.inf.not_box hB)).trans hB
  refine ⟨w', h1, ⟨h2, h.pre.kept h3 (by simpa using h.ne.symm), hb h.tab, hb h.out, hb h.nms, h.ne, h.lo1, h.lo2, ?_⟩, h3.size⟩
  exact h.below.trans ⟨h3.os, h3.tape, h3.output, h3.size, fun k hk => h3.block k (by have := h.below.size; omega) (fun e => by cases e; have := h.lo1; omega)⟩
theorem TabAt.next {w : World} {b1 b2 B1 Bn : Nat} {ns : List ByteArray} {l : List (ByteArray × Op3)} {n : Nat} {W : World} (h : TabAt w b1 b2 B1 Bn ns l n W) (ms : List ByteArray) : TabAt w b1 b2 B1 W.heap.size ms l n (W.alloc (.cells (ms.map Value.string).toArray 9)) := by
  have hg := World.grownBy_alloc W (.cells (ms.map Value.string).toArray 9) none
  have hb : ∀ {B : Nat} {cs : Array Value} {t : TypeId}, Box W B cs t → Box (W.alloc (.cells (ms.map Value.string).toArray 9)) B cs t := fun hB => (hg.block _ (Array.getElem?_eq_some_iff.1 hB).1 (by simp)).trans hB
  refine ⟨h.inf.kept hg (by simp), h.pre.kept hg (by simp), hb h.tab, hb h.out, World.alloc_heap_new _ _, h.ne, h.lo1, h.lo2, h.below.trans (below_a1 h.below.size _)⟩
theorem TabAt.cells {w : World} {b1 b2 B1 Bn : Nat} {ns : List ByteArray} {l : List (ByteArray × Op3)} {n : Nat} {W : World} (h : TabAt w b1 b2 B1 Bn ns l n W) :
    W.cell? ⟨B1, 0, none⟩ = some (.map (some b1)) ∧ W.cell? ⟨B1, 1, none⟩ = some (.map (some b2)) ∧ W.cell? ⟨w.heap.size, 0, none⟩ = some (.map none) ∧ W.cell? ⟨w.heap.size, 1, none⟩ = some (.map none) ∧ B1 < W.heap.size ∧ w.heap.size < W.heap.size ∧ Bn < W.heap.size ∧ (W.frozen? ⟨w.heap.size, 0, none⟩ = false ∧ W.frozen? ⟨w.heap.size, 1, none⟩ = false) ∧ ∀ j (hj : j < ns.length), W.cell? ⟨Bn, j, none⟩ = some (.string ns[j]) := by
  have h1 : W.heap[B1]? = some (.cells #[.map (some b1), .map (some b2)] 113 (0, 0)) := h.tab
  have h2 : W.heap[w.heap.size]? = some (.cells #[.map none, .map none] 113 (0, 0)) := h.out
  have h3 : W.heap[Bn]? = some (.cells (ns.map Value.string).toArray 9 (0, 0)) := h.nms
  have l1 := (Array.getElem?_eq_some_iff.1 h1).1
  have l2 := (Array.getElem?_eq_some_iff.1 h2).1
  have l3 := (Array.getElem?_eq_some_iff.1 h3).1
  refine ⟨?_, ?_, ?_, ?_, l1, l2, l3, ⟨?_, ?_⟩, fun j hj => ?_⟩
  · simp [World.cell?, h1]
  · simp [World.cell?, h1]
  · simp [World.cell?, h2]
  · simp [World.cell?, h2]
  · simp [World.frozen?, h2]
  · simp [World.frozen?, h2]
  · simp [World.cell?, h3, hj]

theorem tab_set (W : World) (B i : Nat) (v : Value) : W.grownBy (W.setCell ⟨B, i, none⟩ v) (some B) := ⟨rfl, rfl, rfl, by simp, fun k _ hne => Below.heap_setCell W ⟨B, i, none⟩ v k (fun e => hne (congrArg some e))⟩
set_option maxRecDepth 100000 in
set_option maxHeartbeats 4000000 in
theorem newOperators_any (w : World) : Calls Tryz.prog 92 #[] w (OpsPost w) := by
  have hmm := @run_makeMap Tryz.prog
  have h0 := OpsAt.new (w.alloc (.cells #[.map none, .map none] 113))
  rw [World.size_alloc] at h0
  have b0 : Box ((w.alloc (.cells #[.map none, .map none] 113)).alloc (.map #[] 0)) w.heap.size #[.map none, .map none] 113 := (Below.heap_alloc _ _ _ (by simp)).trans (World.alloc_heap_new _ _)
  have B0 := below_a2 (Nat.le_refl w.heap.size) (.cells #[.map none, .map none] 113) (.map #[] 0)
  obtain ⟨w1, r1, h1, g1⟩ := h0.add (by unfold maxLen; omega) ⟨#[58, 45]⟩ (by decide) 1200 1199 1199
  obtain ⟨w2, r2, h2, g2⟩ := h1.add (by unfold maxLen; omega) ⟨#[124]⟩ (by decide) 1100 1099 1100
  obtain ⟨w3, r3, h3, g3⟩ := h2.add (by unfold maxLen; omega) ⟨#[44]⟩ (by decide) 1000 999 1000
  obtain ⟨w4, r4, h4, g4⟩ := h3.add (by unfold maxLen; omega) ⟨#[64]⟩ (by decide) 900 899 899
  obtain ⟨w5, r5, h5, g5⟩ := (OpsAt.new w4).add (by unfold maxLen; omega) ⟨#[58, 45]⟩ (by decide) 1200 0 1199
  obtain ⟨w6, r6, h6, g6⟩ := h5.add (by unfold maxLen; omega) ⟨#[45]⟩ (by decide) 200 0 200
  have hl4 := h4.lt
  have hT : TabAt w (w.heap.size + 1) w4.heap.size w6.heap.size (w6.heap.size + 1) nms7 ops4 4 ((w6.alloc (.cells #[.map (some (w.heap.size + 1)), .map (some w4.heap.size)] 113)).alloc (.cells (nms7.map Value.string).toArray 9)) := by
    have ga := World.grownBy_alloc w4 (.map #[] 0) none
    have gb := World.grownBy_alloc w6 (.cells #[.map (some (w.heap.size + 1)), .map (some w4.heap.size)] 113) none
    have hne : w.heap.size + 1 ≠ w4.heap.size := by omega
    have k1 := ((h4.kept ga (by simp)).kept g5 (by simpa using hne)).kept g6 (by simpa using hne)
    have s1 := g1.size
    have s2 := g2.size
    have s3 := g3.size
    have s4 := g4.size
    have s5 := g5.size
    have s6 := g6.size
    simp only [World.size_alloc] at s1 s5
    have hb : Box w6 w.heap.size #[.map none, .map none] 113 := by
      refine (g6.block _ (by omega) (by simp; omega)).trans ((g5.block _ (by simp; omega) (by simp; omega)).trans ((ga.block _ (by omega) (by simp)).trans ((g4.block _ (by omega) (by simp)).trans ((g3.block _ (by omega) (by simp)).trans ((g2.block _ (by omega) (by simp)).trans ((g1.block _ (by simp; omega) (by simp)).trans b0))))))
    have hB : Below w.heap.size w w6 := by
      refine B0.trans ?_
      refine ⟨?_, ?_, ?_, by simp; omega, fun k hk => ?_⟩
      · exact g6.os.trans (g5.os.trans (ga.os.trans (g4.os.trans (g3.os.trans (g2.os.trans g1.os)))))
      · exact g6.tape.trans (g5.tape.trans (ga.tape.trans (g4.tape.trans (g3.tape.trans (g2.tape.trans g1.tape)))))
      · exact g6.output.trans (g5.output.trans (ga.output.trans (g4.output.trans (g3.output.trans (g2.output.trans g1.output)))))
      · exact (g6.block _ (by omega) (by simp; omega)).trans ((g5.block _ (by simp; omega) (by simp; omega)).trans ((ga.block _ (by omega) (by simp)).trans ((g4.block _ (by omega) (by simp; omega)).trans ((g3.block _ (by omega) (by simp; omega)).trans ((g2.block _ (by omega) (by simp; omega)).trans (g1.block _ (by simp; omega) (by simp; omega)))))))
    have hT0 : TabAt w (w.heap.size + 1) w4.heap.size w6.heap.size w.heap.size [] ops4 4 (w6.alloc (.cells #[.map (some (w.heap.size + 1)), .map (some w4.heap.size)] 113)) → TabAt w (w.heap.size + 1) w4.heap.size w6.heap.size (w6.heap.size + 1) nms7 ops4 4 ((w6.alloc (.cells #[.map (some (w.heap.size + 1)), .map (some w4.heap.size)] 113)).alloc (.cells (nms7.map Value.string).toArray 9)) := fun h => by
      have := h.next nms7
      rwa [World.size_alloc] at this
    have gc := World.grownBy_alloc (w6.alloc (.cells #[.map (some (w.heap.size + 1)), .map (some w4.heap.size)] 113)) (.cells (nms7.map Value.string).toArray 9) none
    refine ⟨(k1.kept gb (by simp)).kept gc (by simp), (h6.kept gb (by simp)).kept gc (by simp), (Below.heap_alloc _ _ _ (by simp)).trans (World.alloc_heap_new _ _), (gc.block _ (by simp; omega) (by simp)).trans ((gb.block _ (by omega) (by simp)).trans hb), ?_, hne, by omega, by omega, hB.trans (below_a2 hB.size _ _)⟩
    have := World.alloc_heap_new (w6.alloc (.cells #[.map (some (w.heap.size + 1)), .map (some w4.heap.size)] 113)) (.cells (nms7.map Value.string).toArray 9)
    rwa [World.size_alloc] at this
  have HT := Lib.hid hT
  clear h0 h1 h2 h3 h4 h5 h6 g1 g2 g3 g4 g5 g6 b0 B0 hT hl4
  go_enter Tryz.func92, Tryz.ntmps92
  go_wp2_with fail
  go_loopw [21] (fun iv wr => ∃ j : Nat, j ≤ 10 ∧ iv = .int .i64 j ∧ Hid (TabAt w (w.heap.size + 1) w4.heap.size w6.heap.size (w6.heap.size + 1) nms7 (ops4 ++ (nms7.take j).map (fun s => (s, (700, 699, 699)))) (4 + j) wr)) (fun iv _ => 10 - (intOf iv).toNat)
  case atStart => exact ⟨0, Nat.zero_le _, rfl, by have h := HT.out; rw [Hid, List.take_zero, List.map_nil, List.append_nil]; exact h⟩
  case round =>
    obtain ⟨j, hj, rfl, HA⟩ := hrel
    obtain ⟨c0, c1, c2, c3, l1, l2, l3, ⟨f0, f1⟩, hc⟩ := HA.out.cells
    by_cases hlt : j < 10
    · have hlt' : j < nms7.length := hlt
      have hcj := hc j hlt'
      obtain ⟨wn, rn, hn, hsn⟩ := HA.out.add (by unfold maxLen; omega) nms7[j] (nms_size nms7 (by decide) j hlt') 700 699 699
      have HN : Hid (TabAt w (w.heap.size + 1) w4.heap.size w6.heap.size (w6.heap.size + 1) nms7 (ops4 ++ (nms7.take (j + 1)).map (fun s => (s, (700, 699, 699)))) (4 + (j + 1)) wn) := by
        rw [Hid, List.take_succ_eq_append_getElem hlt', List.map_append, ← List.append_assoc]
        exact hn
      clear hc hn
      generalize nms7[j] = key at *
      go_wp2_with fail
      go_roundw
      case rel => exact ⟨j + 1, hlt, by go_num, HN⟩
      case measure => simp [intOf]; omega
    · have hjn : j = 10 := by omega
      subst hjn
      obtain ⟨wo2, rfl⟩ : ∃ wo : World, wo = wr := ⟨_, rfl⟩
      have HX2 := Lib.hid (HA.out.next nms5)
      clear hc
      go_wp2_with fail
      clear c0 c1 c2 c3 l1 l2 l3 f0 f1
      go_loopw [32] (fun iv wr => ∃ j : Nat, j ≤ 2 ∧ iv = .int .i64 j ∧ Hid (TabAt w (w.heap.size + 1) w4.heap.size w6.heap.size wo2.heap.size nms5 ((ops4 ++ (nms7.take 10).map (fun s => (s, (700, 699, 699)))) ++ (nms5.take j).map (fun s => (s, (500, 500, 499)))) (14 + j) wr)) (fun iv _ => 2 - (intOf iv).toNat)
      case atStart => exact ⟨0, Nat.zero_le _, rfl, by have h := HX2.out; rw [Hid, List.take_zero, List.map_nil, List.append_nil]; exact h⟩
      case round =>
        obtain ⟨j, hj, rfl, HA⟩ := hrel
        obtain ⟨c0, c1, c2, c3, l1, l2, l3, ⟨f0, f1⟩, hc⟩ := HA.out.cells
        by_cases hlt : j < 2
        · have hlt' : j < nms5.length := hlt
          have hcj := hc j hlt'
          obtain ⟨wn, rn, hn, hsn⟩ := HA.out.add (by unfold maxLen; omega) nms5[j] (nms_size nms5 (by decide) j hlt') 500 500 499
          have HN : Hid (TabAt w (w.heap.size + 1) w4.heap.size w6.heap.size wo2.heap.size nms5 ((ops4 ++ (nms7.take 10).map (fun s => (s, (700, 699, 699)))) ++ (nms5.take (j + 1)).map (fun s => (s, (500, 500, 499)))) (14 + (j + 1)) wn) := by
            rw [Hid, List.take_succ_eq_append_getElem hlt', List.map_append, ← List.append_assoc]
            exact hn
          clear hc hn
          generalize nms5[j] = key at *
          go_wp2_with fail
          go_roundw
          case rel => exact ⟨j + 1, hlt, by go_num, HN⟩
          case measure => simp [intOf]; omega
        · have hjn : j = 2 := by omega
          subst hjn
          obtain ⟨wo3, rfl⟩ : ∃ wo : World, wo = wr := ⟨_, rfl⟩
          have HX3 := Lib.hid (HA.out.next nms4)
          clear hc
          go_wp2_with fail
          clear c0 c1 c2 c3 l1 l2 l3 f0 f1
          go_loopw [43] (fun iv wr => ∃ j : Nat, j ≤ 3 ∧ iv = .int .i64 j ∧ Hid (TabAt w (w.heap.size + 1) w4.heap.size w6.heap.size wo3.heap.size nms4 (((ops4 ++ (nms7.take 10).map (fun s => (s, (700, 699, 699)))) ++ (nms5.take 2).map (fun s => (s, (500, 500, 499)))) ++ (nms4.take j).map (fun s => (s, (400, 400, 399)))) (16 + j) wr)) (fun iv _ => 3 - (intOf iv).toNat)
          case atStart => exact ⟨0, Nat.zero_le _, rfl, by have h := HX3.out; rw [Hid, List.take_zero, List.map_nil, List.append_nil]; exact h⟩
          case round =>
            obtain ⟨j, hj, rfl, HA⟩ := hrel
            obtain ⟨c0, c1, c2, c3, l1, l2, l3, ⟨f0, f1⟩, hc⟩ := HA.out.cells
            by_cases hlt : j < 3
            · have hlt' : j < nms4.length := hlt
              have hcj := hc j hlt'
              obtain ⟨wn, rn, hn, hsn⟩ := HA.out.add (by unfold maxLen; omega) nms4[j] (nms_size nms4 (by decide) j hlt') 400 400 399
              have HN : Hid (TabAt w (w.heap.size + 1) w4.heap.size w6.heap.size wo3.heap.size nms4 (((ops4 ++ (nms7.take 10).map (fun s => (s, (700, 699, 699)))) ++ (nms5.take 2).map (fun s => (s, (500, 500, 499)))) ++ (nms4.take (j + 1)).map (fun s => (s, (400, 400, 399)))) (16 + (j + 1)) wn) := by
                rw [Hid, List.take_succ_eq_append_getElem hlt', List.map_append, ← List.append_assoc]
                exact hn
              clear hc hn
              generalize nms4[j] = key at *
              go_wp2_with fail
              go_roundw
              case rel => exact ⟨j + 1, hlt, by go_num, HN⟩
              case measure => simp [intOf]; omega
            · have hjn : j = 3 := by omega
              subst hjn
              obtain ⟨h1, h2, h3, h4, h5, h6, h7, h8, h9⟩ := HA.out
              have gs1 : wr.grownBy (wr.setCell ⟨w.heap.size, 0, none⟩ (.map (some (w.heap.size + 1)))) (some w.heap.size) := tab_set _ _ _ _
              have gs2 : (wr.setCell ⟨w.heap.size, 0, none⟩ (.map (some (w.heap.size + 1)))).grownBy ((wr.setCell ⟨w.heap.size, 0, none⟩ (.map (some (w.heap.size + 1)))).setCell ⟨w.heap.size, 1, none⟩ (.map (some w4.heap.size))) (some w.heap.size) := tab_set _ _ _ _
              have HF : Hid (OpsTwo w.heap.size ((wr.setCell ⟨w.heap.size, 0, none⟩ (.map (some (w.heap.size + 1)))).setCell ⟨w.heap.size, 1, none⟩ (.map (some w4.heap.size))) (w.heap.size + 1) w4.heap.size ∧ Below w.heap.size w ((wr.setCell ⟨w.heap.size, 0, none⟩ (.map (some (w.heap.size + 1)))).setCell ⟨w.heap.size, 1, none⟩ (.map (some w4.heap.size)))) :=
                ⟨⟨h7, h8, h6, ⟨_, (h1.kept gs1 (by simp)).kept gs2 (by simp)⟩, ⟨_, (h2.kept gs1 (by simpa using (h2.not_box h4).symm)).kept gs2 (by simpa using (h2.not_box h4).symm)⟩⟩, (h9.setCell (p := ⟨w.heap.size, 0, none⟩) (Nat.le_refl _) _).setCell (p := ⟨w.heap.size, 1, none⟩) (Nat.le_refl _) _⟩
              have bx := (h4.set 0 (.map (some (w.heap.size + 1)))).set 1 (.map (some w4.heap.size))
              have y0 := bx.cell 0
              have y1 := bx.cell 1
              clear h1 h2 h3 h4 h5 h6 h7 h8 h9 gs1 gs2 hc bx
              go_wp2_with fail
              generalize (wr.setCell ⟨w.heap.size, 0, none⟩ (.map (some (w.heap.size + 1)))).setCell ⟨w.heap.size, 1, none⟩ (.map (some w4.heap.size)) = FW at *
              simp at y0 y1
              exact bodyPost_ret (v := .agg #[.map (some (w.heap.size + 1)), .map (some w4.heap.size)]) (by simp [results, Tryz.results92, go_sem, y0, y1]) rfl ⟨_, _, rfl, HF.out⟩
end Go.Proofs.YthfciekhmbfmfaaGreatDoor
