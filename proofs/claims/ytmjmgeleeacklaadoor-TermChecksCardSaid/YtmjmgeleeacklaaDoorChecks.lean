import Derived.Test.YtmjmgeleeacklaaDoorSane
namespace Go.Proofs.YtmjmgeleeacklaaDoor
open Go.RowKit Go

attribute [local go_sem] monoUpon Yld.says

theorem refCheck_any (T : Tr) (v : Value) (w : World) (hT : IsT w.heap.size w T v) (hsz : T.size ≤ 1000000000) (hdp : T.deep ≤ 1000000000) :
    Calls Tryd.prog 23 #[v] w fun e w' => e = .returned (.int .i64 (errI (isB T))) ∧ Below w.heap.size w w' := by
  obtain ⟨k, n, s, a, m, c, rfl⟩ := (IsT.toP _ _ hT).form
  have hb := below_a1 (Nat.le_refl w.heap.size) (.cells #[.int .i64 k, .int .i64 n, .string s, .slice a m c] 25)
  replace hT := hT.up hb hb.size
  go_enter Tryd.func23, Tryd.ntmps23
  go_wp2_with fail
  refine (refIs_any T _ _ hT hsz hdp).mono ?_
  rintro e W1 ⟨rfl, B⟩
  replace hb := hb.trans (B.mono hb.size)
  clear B hT
  obtain ⟨r, hr⟩ : ∃ r, isB T = r := ⟨_, rfl⟩
  have HR := Lib.hid hr
  rw [hr]
  clear hr
  cases r <;> (go_wp2_with fail; go_ret; exact ⟨by rw [HR.out]; rfl, hb⟩)

set_option maxRecDepth 100000 in
set_option maxHeartbeats 1000000 in
theorem refTog_any (l : List Tr) (a : Option Addr) (c : Nat) (w : World) (hl : IsL w.heap.size w l a) (hs : sizeL l ≤ 1000000) (hd : ∀ t, t ∈ l → t.deep ≤ 1000000000) :
    Calls Tryd.prog 64 #[.slice a l.length c] w fun e w' => e = .returned (.bool (togB l)) ∧ Below w.heap.size w w' := by
  have HL := Lib.hid hl
  have HD := Lib.hid hd
  have hlen := length_le_sizeL l
  have hlm : l.length ≤ 9223372036854775807 := by omega
  clear hl hd
  go_enter Tryd.func64, Tryd.ntmps64
  go_wp2_with fail
  go_loopw [3, 4] (fun x i wr => ∃ j : Nat, j ≤ l.length ∧ i = .int .i64 j ∧ x = .int .i64 (sizeL (l.take j) : Int) ∧ (l.take j).all isB = true ∧ Below w.heap.size w wr) (fun _ i _ => l.length - (intOf i).toNat)
  case atStart => exact ⟨0, Nat.zero_le _, rfl, rfl, rfl, Below.refl _ _⟩
  case round =>
    obtain ⟨j, hj, rfl, rfl, hall, hBj⟩ := hrel
    have hz1 := sizeL_take_le (l := l) j
    by_cases hlt : j < l.length
    · obtain ⟨b, off, rfl, hbb⟩ := HL.out.addr (by omega)
      obtain ⟨tk, tn, ts, tl, ta, tc, te, d0, d1, d2, d3, ht⟩ := HL.out.node' hbb hBj j hlt
      have hwr := hBj.size
      have hbw : b < wr.heap.size := by omega
      have hu1 : l[j].size ≤ 1000000000 := by have := size_mem (List.getElem_mem hlt); omega
      have hu2 : l[j].deep ≤ 1000000000 := HD.out _ (List.getElem_mem hlt)
      have hq1 := sizeL_take j hlt
      have hr1 := sizeL_take_le (l := l) (j + 1)
      have HJ := Lib.hid (And.intro hall (And.intro hBj te))
      clear te hall hBj
      go_wp2_with fail
      refine (refIs_any l[j] _ _ (ht.up HJ.out.2.1 HJ.out.2.1.size) hu1 hu2).mono ?_
      rintro e W1 ⟨rfl, B⟩
      have hB1 := HJ.out.2.1.trans (B.mono HJ.out.2.1.size)
      have HK := Lib.hid hB1
      clear B d0 d1 d2 d3 ht
      cases hi : isB l[j] with
      | false =>
        have HT : Hid (togB l = false) := by rw [Hid, togB, List.all_eq_false.2 ⟨_, List.getElem_mem hlt, by simp [hi]⟩]; rfl
        clear hi hB1
        go_wp2_with fail
        go_ret
        exact ⟨retB HT.out, HK.out⟩
      | true =>
        have HT : Hid ((l.take (j + 1)).all isB = true) := all_take j hlt HJ.out.1 hi
        obtain ⟨tk', tn', ts', tl', ta', tc', te, d0, d1, d2, d3, ht⟩ := HL.out.node' hbb hB1 j hlt
        have hbw1 : b < W1.heap.size := by have := hB1.size; omega
        have HE := Lib.hid te
        clear te hi hB1
        have hc := refSize_any l[j] _ W1 (ht.up HK.out HK.out.size) hu1 hu2
        generalize hA : sizeL (l.take (j + 1)) = A at *
        generalize sizeL (l.take j) = A0 at *
        generalize l[j].size = A1 at *
        generalize l[j].deep = D1 at *
        have HQ := Lib.hid (And.intro hq1 hA)
        have HC := Lib.hid hc
        have hle : (A0 : Int) + A1 ≤ 1000000000 := by omega
        have hnn : 0 ≤ (A0 : Int) ∧ 0 ≤ (A1 : Int) := by omega
        clear hq1 hc hA
        go_wp2_with fail
        refine HC.out.mono ?_
        rintro e W2 ⟨rfl, B⟩
        have HB := Lib.hid (HK.out.trans (B.mono HK.out.size))
        clear B d0 d1 d2 d3 ht
        go_wp2_with fail
        go_roundw
        case rel =>
          refine ⟨j + 1, hlt, by go_num, ?_, HT.out, HB.out⟩
          rw [HQ.out.2]
          have := HQ.out.1
          congr 1
          omega
        case measure => simp [intOf]; omega
    · rw [List.take_of_length_le (by omega)] at hall ⊢
      have HJ := Lib.hid hBj
      have HT : Hid (togB l = decide (sizeL l ≤ 4000)) := by rw [Hid, togB, hall]; rfl
      clear hall hBj hz1
      generalize sizeL l = A at *
      go_wp2_with fail
      all_goals
        go_ret
        refine ⟨retB ?_, HJ.out⟩
        rw [HT.out, Bool.eq_iff_iff]
        simp [*]
        try omega
theorem refCheckAll_any (l : List Tr) (a : Option Addr) (c : Nat) (w : World) (hl : IsL w.heap.size w l a) (hs : sizeL l ≤ 1000000) (hd : ∀ t, t ∈ l → t.deep ≤ 1000000000) :
    Calls Tryd.prog 19 #[.slice a l.length c] w fun e w' => e = .returned (.int .i64 (errI (togB l))) ∧ Below w.heap.size w w' := by
  go_enter Tryd.func19, Tryd.ntmps19
  go_wp2_with fail
  refine (refTog_any l a c _ hl hs hd).mono ?_
  rintro e W1 ⟨rfl, B⟩
  clear hl
  obtain ⟨r, hr⟩ : ∃ r, togB l = r := ⟨_, rfl⟩
  have HR := Lib.hid hr
  rw [hr]
  clear hr
  cases r <;> (go_wp2_with fail; go_ret; exact ⟨by rw [HR.out]; rfl, B⟩)

set_option maxRecDepth 100000 in
set_option maxHeartbeats 4000000 in
theorem termChecks_any (l : List Tr) (a : Option Addr) (c : Nat) (w : World) (hm : l.length ≤ maxLen) (hl : IsL w.heap.size w l a) (htab : Lib.TabBelow Tryd.prog w.heap.size w "internal/strconv.uint64pow10" .u64 Lib.pow10Tab) :
    Calls Tryd.prog 3 #[.slice a l.length c] w fun e w' => e = .returned (.bool true) ∧ Below w.heap.size w w' := by
  have HL := Lib.hid hl
  have hlm : l.length ≤ 9223372036854775807 := by unfold maxLen at hm; omega
  clear hl
  go_enter Tryd.func3, Tryd.ntmps3
  go_wp2_with fail
  refine (sane_any _ htab).mono ?_
  rintro e W1 ⟨rfl, hB1⟩
  clear htab
  have HB1 := Lib.hid hB1
  have hw1 := hB1.size
  clear hB1
  go_wp2_with fail
  have hb0 : Box (W1.alloc (.cells #[.int .i64 6000] 3)) W1.heap.size #[.int .i64 6000] 3 := Box.at rfl
  go_loopw [16] (fun i wr => ∃ (j : Nat) (x : Int), j ≤ l.length ∧ i = .int .i64 j ∧ cntL (l.take j) 6000 1 = (true, x) ∧ 0 ≤ x ∧ x ≤ 1000000 ∧ Box wr W1.heap.size #[.int .i64 x] 3 ∧ Below w.heap.size w wr) (fun i _ => l.length - (intOf i).toNat)
  case atStart => exact ⟨0, 6000, Nat.zero_le _, rfl, by simp [cntL], by omega, by omega, hb0, HB1.out.trans (below_a1 HB1.out.size _)⟩
  case round =>
    obtain ⟨j, x, hj, rfl, hcj, hx0, hx1, hbj, hBj⟩ := hrel
    by_cases hlt : j < l.length
    · obtain ⟨b, off, rfl, hbb⟩ := HL.out.addr (by omega)
      obtain ⟨tk, tn, ts, tl, ta, tc, te, c0, c1, c2, c3, ht⟩ := HL.out.node' hbb hBj j hlt
      have hwr := hBj.size
      have hbw : b < wr.heap.size := by omega
      have hstep := cntL_take l 6000 1 x j hlt hcj
      have Te := Lib.hid (And.intro te hstep)
      have HJ := Lib.hid (And.intro hbj hBj)
      clear te hstep hbj hBj hcj
      go_wp2_with fail
      refine (count_any w.heap.size W1.heap.size hw1 l[j] _ x 1 _ ((ht.below HJ.out.2).below (below_a1 (by omega) _)) (by simp; omega) (HJ.out.1.alloc _) hx0 hx1 (by omega) (by omega)).mono ?_
      rintro e w2 ⟨rfl, hb2, hg2⟩
      have hB2 := (HJ.out.2.trans (below_a1 hwr _)).trans (grown_below hg2 (by simp; omega) hw1)
      have HK := Lib.hid (And.intro hb2 hB2)
      clear hb2 hg2 hB2
      cases hr : (cntT l[j] x 1).1 with
      | true =>
        have hle := cntT_le _ _ _ hx0 hr
        have Hr := Lib.hid hr
        clear hr
        go_wp2_with fail
        go_roundw
        case rel => exact ⟨j + 1, _, hlt, by go_num, by rw [Te.out.2]; exact Prod.ext Hr.out rfl, hle.1, by omega, HK.out.1, HK.out.2⟩
        case measure => simp [intOf]; omega
      | false =>
        clear hr
        go_wp2_with fail
        go_ret
        exact ⟨rfl, HK.out.2⟩
    · rw [List.take_of_length_le (by omega)] at hcj
      have hok := cntL_ok l 6000 1 (by omega) (by rw [hcj])
      rw [hcj] at hok
      have hsz : sizeL l ≤ 6000 := by have := hok.1; have := hok.2.1; simp only at *; omega
      have hdl : deepL l ≤ 700 := by
        by_cases e : deepL l = 0
        · omega
        · have := hok.2.2 (by omega); omega
      have HS := Lib.hid (And.intro hsz hdl)
      have hJ := hBj
      have HJ := Lib.hid hJ
      clear hcj hbj hBj hJ hok hsz hdl hb0 HB1 hx0 hx1
      have hdm : ∀ t, t ∈ l → t.deep ≤ 700 := fun t ht => by have := deep_mem ht; have := HS.out.2; omega
      have HDM := Lib.hid hdm
      clear hdm
      go_wp2_with fail
      refine (checkAll_any l a c _ hm (HL.out.up HJ.out HJ.out.size) (fun t ht => by have := HDM.out t ht; omega)).mono ?_
      rintro e W2 ⟨rfl, B⟩
      have HB2 := Lib.hid (HJ.out.trans (B.mono HJ.out.size))
      clear B
      go_wp2_with fail
      refine (refCheckAll_any l a c _ (HL.out.up HB2.out HB2.out.size) (by have := HS.out.1; omega) (fun t ht => by have := HDM.out t ht; omega)).mono ?_
      rintro e W3 ⟨rfl, B⟩
      have HB3 := Lib.hid (HB2.out.trans (B.mono HB2.out.size))
      clear B
      generalize errI (togB l) = et at *
      go_wp2_with fail
      go_loopw [31] (fun i wr => ∃ (j : Nat), j ≤ l.length ∧ i = .int .i64 j ∧ Below w.heap.size w wr) (fun i _ => l.length - (intOf i).toNat)
      case atStart => exact ⟨0, Nat.zero_le _, rfl, HB3.out⟩
      case round =>
        obtain ⟨j, hj, rfl, hBj⟩ := hrel
        by_cases hlt : j < l.length
        · obtain ⟨b, off, rfl, hbb⟩ := HL.out.addr (by omega)
          obtain ⟨tk, tn, ts, tl, ta, tc, te, c0, c1, c2, c3, ht⟩ := HL.out.node' hbb hBj j hlt
          have hwr := hBj.size
          have hbw : b < wr.heap.size := by omega
          have hB4 := hBj.trans (below_a1 hwr (.cells #[.int .i64 tk, .int .i64 tn, .string ts, .slice ta tl.length tc] 25))
          have b7 : Box (wr.alloc (.cells #[.int .i64 tk, .int .i64 tn, .string ts, .slice ta tl.length tc] 25)) wr.heap.size #[.int .i64 tk, .int .i64 tn, .string ts, .slice ta tl.length tc] 25 := Box.at rfl
          have hz : l[j].size ≤ 6000 ∧ l[j].deep ≤ 700 := ⟨by have := size_mem (List.getElem_mem hlt); have := HS.out.1; omega, HDM.out _ (List.getElem_mem hlt)⟩
          have HZ := Lib.hid hz
          have HJ4 := Lib.hid (And.intro hB4 (And.intro b7 (And.intro te ht)))
          clear te hBj hB4 b7 ht hz
          go_wp2_with fail
          refine (size_any l[j] _ _ (HJ4.out.2.2.2.up HJ4.out.1 HJ4.out.1.size) (by have := HZ.out.1; omega) (by have := HZ.out.2; omega)).mono ?_
          rintro e W4 ⟨rfl, B⟩
          have HB4 := Lib.hid (And.intro (HJ4.out.1.trans (B.mono HJ4.out.1.size)) (Box.keep B HJ4.out.2.1))
          clear B c0 c1 c2 c3
          have q0 := HB4.out.2.cell 0
          have q1 := HB4.out.2.cell 1
          have q2 := HB4.out.2.cell 2
          have q3 := HB4.out.2.cell 3
          simp only [List.getElem?_toArray, List.getElem?_cons_succ, List.getElem?_cons_zero] at q0 q1 q2 q3
          go_wp2_with fail
          clear q0 q1 q2 q3
          refine (refSize_any l[j] _ _ (HJ4.out.2.2.2.up HB4.out.1 HB4.out.1.size) (by have := HZ.out.1; omega) (by have := HZ.out.2; omega)).mono ?_
          rintro e W5 ⟨rfl, B⟩
          have HB5 := Lib.hid (And.intro (HB4.out.1.trans (B.mono HB4.out.1.size)) (Box.keep B HB4.out.2))
          clear B
          go_wp2_with fail
          have b5 := HB5.out.2
          have p0 := b5.cell 0
          have p1 := b5.cell 1
          have p2 := b5.cell 2
          have p3 := b5.cell 3
          have l5 := b5.lt
          simp only [List.getElem?_toArray, List.getElem?_cons_succ, List.getElem?_cons_zero] at p0 p1 p2 p3
          clear b5
          have hbw5 : b < W5.heap.size := by omega
          obtain ⟨m, hm2⟩ : ∃ m, j / 2 = m := ⟨_, rfl⟩
          have hml : m < l.length := by omega
          have hq1 : (j : Int) / 2 = (m : Int) := by omega
          have hq2 : IntKind.i64.wrap (m : Int) = (m : Int) := by rw [IntKind.wrap_i64]; omega
          have hl0 : 0 < l.length := by omega
          obtain ⟨uk, un, us, ul, ua, uc, ue, d0, d1, d2, d3, hu⟩ := HL.out.node' hbb HB5.out.1 0 hl0
          obtain ⟨vk, vn, vs, vl, va, vc, ve, e0', e1', e2', e3', hv⟩ := HL.out.node' hbb HB5.out.1 m hml
          simp only [Nat.zero_mul, Nat.add_zero] at d0 d1 d2 d3
          obtain ⟨x, hx⟩ : ∃ x, errI (isB l[j]) = x := ⟨_, rfl⟩
          obtain ⟨e0, he0⟩ : ∃ e0, eqT l[j] l[0] = e0 := ⟨_, rfl⟩
          obtain ⟨e2, he2⟩ : ∃ e2, eqT l[j] l[m] = e2 := ⟨_, rfl⟩
          have hty : ∀ W, Below W5.heap.size W5 W → IsT W.heap.size W l[j] (.agg #[.int .i64 tk, .int .i64 tn, .string ts, .slice ta tl.length tc]) ∧ IsT W.heap.size W l[0] (.agg #[.int .i64 uk, .int .i64 un, .string us, .slice ua ul.length uc]) ∧ IsT W.heap.size W l[m] (.agg #[.int .i64 vk, .int .i64 vn, .string vs, .slice va vl.length vc]) := fun W hW => ⟨(HJ4.out.2.2.2.up HB5.out.1 HB5.out.1.size).up hW hW.size, (hu.up HB5.out.1 HB5.out.1.size).up hW hW.size, (hv.up HB5.out.1 HB5.out.1.size).up hW hW.size⟩
          have HK : Hid ((∀ W, Below W5.heap.size W5 W → Calls Tryd.prog 22 #[.agg #[.int .i64 tk, .int .i64 tn, .string ts, .slice ta tl.length tc]] W fun e w' => e = .returned (.int .i64 x) ∧ Below W.heap.size W w') ∧ (∀ W, Below W5.heap.size W5 W → Calls Tryd.prog 23 #[.agg #[.int .i64 tk, .int .i64 tn, .string ts, .slice ta tl.length tc]] W fun e w' => e = .returned (.int .i64 x) ∧ Below W.heap.size W w') ∧
              (∀ W, Below W5.heap.size W5 W → Calls Tryd.prog 24 #[.agg #[.int .i64 tk, .int .i64 tn, .string ts, .slice ta tl.length tc], .agg #[.int .i64 uk, .int .i64 un, .string us, .slice ua ul.length uc]] W fun e w' => e = .returned (.bool e0) ∧ Below W.heap.size W w') ∧ (∀ W, Below W5.heap.size W5 W → Calls Tryd.prog 25 #[.agg #[.int .i64 tk, .int .i64 tn, .string ts, .slice ta tl.length tc], .agg #[.int .i64 uk, .int .i64 un, .string us, .slice ua ul.length uc]] W fun e w' => e = .returned (.bool e0) ∧ Below W.heap.size W w') ∧
              (∀ W, Below W5.heap.size W5 W → Calls Tryd.prog 24 #[.agg #[.int .i64 tk, .int .i64 tn, .string ts, .slice ta tl.length tc], .agg #[.int .i64 vk, .int .i64 vn, .string vs, .slice va vl.length vc]] W fun e w' => e = .returned (.bool e2) ∧ Below W.heap.size W w') ∧ (∀ W, Below W5.heap.size W5 W → Calls Tryd.prog 25 #[.agg #[.int .i64 tk, .int .i64 tn, .string ts, .slice ta tl.length tc], .agg #[.int .i64 vk, .int .i64 vn, .string vs, .slice va vl.length vc]] W fun e w' => e = .returned (.bool e2) ∧ Below W.heap.size W w') ∧
              (∀ W, Below W5.heap.size W5 W → Calls Tryd.prog 24 #[.agg #[.int .i64 tk, .int .i64 tn, .string ts, .slice ta tl.length tc], .agg #[.int .i64 tk, .int .i64 tn, .string ts, .slice ta tl.length tc]] W fun e w' => e = .returned (.bool true) ∧ Below W.heap.size W w')) := by
            subst hx he0 he2
            refine ⟨fun W hW => check_any _ _ W (hty W hW).1 (by have := HZ.out.2; omega), fun W hW => refCheck_any _ _ W (hty W hW).1 (by have := HZ.out.1; omega) (by have := HZ.out.2; omega), fun W hW => same_any _ _ _ _ W (hty W hW).1 (hty W hW).2.1, fun W hW => refSame_any _ _ _ _ W (hty W hW).1 (hty W hW).2.1,
              fun W hW => same_any _ _ _ _ W (hty W hW).1 (hty W hW).2.2, fun W hW => refSame_any _ _ _ _ W (hty W hW).1 (hty W hW).2.2, fun W hW => ?_⟩
            have := same_any _ _ _ _ W (hty W hW).1 (hty W hW).1
            rwa [show eqT l[j] l[j] = true by simp [eqT]] at this
          have HX := Lib.hid (And.intro ue ve)
          clear hty hx he0 he2 hu hv ue ve HJ4 HB4
          apply wp_region_mono [.det (.agg #[.int .i64 tk, .int .i64 tn, .string ts, .slice ta tl.length tc]), .det (.int .i64 x), .det (.agg #[.int .i64 tk, .int .i64 tn, .string ts, .slice ta tl.length tc]), .det (.int .i64 x), .det (.bool false), .det (.bool false), .det (.int .i64 l[j].size), .det (.int .i64 l[j].size), .det (.bool false), .det (.bool false), .det (.bool false), .det (.int .i64 l[j].deep), .det (.int .i64 l[j].deep), .det (.bool false), .det (.bool false), .det (.bool false), .det (.agg #[.int .i64 tk, .int .i64 tn, .string ts, .slice ta tl.length tc]), .det (.slice (some ⟨b, off, none⟩) l.length c), .det (.pointer (some ⟨b, off, none⟩)), .det (.agg #[.int .i64 uk, .int .i64 un, .string us, .slice ua ul.length uc]), .det (.bool e0), .det (.agg #[.int .i64 tk, .int .i64 tn, .string ts, .slice ta tl.length tc]), .det (.slice (some ⟨b, off, none⟩) l.length c), .det (.pointer (some ⟨b, off, none⟩)), .det (.agg #[.int .i64 uk, .int .i64 un, .string us, .slice ua ul.length uc]), .det (.bool e0), .det (.bool false), .det (.bool false), .det (.bool false), .det (.agg #[.int .i64 tk, .int .i64 tn, .string ts, .slice ta tl.length tc]), .det (.slice (some ⟨b, off, none⟩) l.length c), .det (.int .i64 j), .det (.int .i64 m), .det (.pointer (some ⟨b, off + m * 4, none⟩)), .det (.agg #[.int .i64 vk, .int .i64 vn, .string vs, .slice va vl.length vc]), .det (.bool e2), .det (.agg #[.int .i64 tk, .int .i64 tn, .string ts, .slice ta tl.length tc]), .det (.slice (some ⟨b, off, none⟩) l.length c), .det (.int .i64 j), .det (.int .i64 m), .det (.pointer (some ⟨b, off + m * 4, none⟩)), .det (.agg #[.int .i64 vk, .int .i64 vn, .string vs, .slice va vl.length vc]), .det (.bool e2), .det (.bool false), .det (.bool false), .det (.bool false), .det (.agg #[.int .i64 tk, .int .i64 tn, .string ts, .slice ta tl.length tc]), .det (.agg #[.int .i64 tk, .int .i64 tn, .string ts, .slice ta tl.length tc]), .det (.bool true), .det (.bool false), .det (.bool false)] (by kernel_rfl) (by kernel_rfl)
          rotate_left
          · iterate 1 (
              refine wpM_step (fun K hK => ?_)
              go_simp
              apply And.intro
              · intro w' hC _
                have q1 := hC.old.1
                have hbs := hC.old.2.2
                clear hC
                go_simp
                exact Ext.refl _
              refine nextM_det (hK _ _ ?_)
              clear hK K)
            refine wpM_step (fun K hK => ?_)
            go_simp
            apply And.intro
            · intro w' hC _
              have hS := HK.out.1 w' hC
              clear hC
              go_simp
              refine ⟨Ext.refl _, hS.mono ?_⟩
              rintro e w1 ⟨rfl, B⟩
              exact ⟨rfl, B⟩
            refine nextM_det (hK _ _ ?_)
            clear hK K
            iterate 1 (
              refine wpM_step (fun K hK => ?_)
              go_simp
              apply And.intro
              · intro w' hC _
                have q1 := hC.old.1
                have hbs := hC.old.2.2
                clear hC
                go_simp
                exact Ext.refl _
              refine nextM_det (hK _ _ ?_)
              clear hK K)
            refine wpM_step (fun K hK => ?_)
            go_simp
            apply And.intro
            · intro w' hC _
              have hS := HK.out.2.1 w' hC
              clear hC
              go_simp
              refine ⟨Ext.refl _, hS.mono ?_⟩
              rintro e w1 ⟨rfl, B⟩
              exact ⟨rfl, B⟩
            refine nextM_det (hK _ _ ?_)
            clear hK K
            iterate 16 (
              refine wpM_step (fun K hK => ?_)
              go_simp
              apply And.intro
              · intro w' hC _
                have q1 := hC.old.1
                have hbs := hC.old.2.2
                clear hC
                go_simp
                exact Ext.refl _
              refine nextM_det (hK _ _ ?_)
              clear hK K)
            refine wpM_step (fun K hK => ?_)
            go_simp
            apply And.intro
            · intro w' hC _
              have hS := HK.out.2.2.1 w' hC
              clear hC
              go_simp
              refine ⟨Ext.refl _, hS.mono ?_⟩
              rintro e w1 ⟨rfl, B⟩
              exact ⟨rfl, B⟩
            refine nextM_det (hK _ _ ?_)
            clear hK K
            iterate 4 (
              refine wpM_step (fun K hK => ?_)
              go_simp
              apply And.intro
              · intro w' hC _
                have q1 := hC.old.1
                have hbs := hC.old.2.2
                clear hC
                go_simp
                exact Ext.refl _
              refine nextM_det (hK _ _ ?_)
              clear hK K)
            refine wpM_step (fun K hK => ?_)
            go_simp
            apply And.intro
            · intro w' hC _
              have hS := HK.out.2.2.2.1 w' hC
              clear hC
              go_simp
              refine ⟨Ext.refl _, hS.mono ?_⟩
              rintro e w1 ⟨rfl, B⟩
              exact ⟨rfl, B⟩
            refine nextM_det (hK _ _ ?_)
            clear hK K
            iterate 9 (
              refine wpM_step (fun K hK => ?_)
              go_simp
              apply And.intro
              · intro w' hC _
                have q1 := hC.old.1
                have hbs := hC.old.2.2
                clear hC
                go_simp
                exact Ext.refl _
              refine nextM_det (hK _ _ ?_)
              clear hK K)
            refine wpM_step (fun K hK => ?_)
            go_simp
            apply And.intro
            · intro w' hC _
              have hS := HK.out.2.2.2.2.1 w' hC
              clear hC
              go_simp
              refine ⟨Ext.refl _, hS.mono ?_⟩
              rintro e w1 ⟨rfl, B⟩
              exact ⟨rfl, B⟩
            refine nextM_det (hK _ _ ?_)
            clear hK K
            iterate 6 (
              refine wpM_step (fun K hK => ?_)
              go_simp
              apply And.intro
              · intro w' hC _
                have q1 := hC.old.1
                have hbs := hC.old.2.2
                clear hC
                go_simp
                exact Ext.refl _
              refine nextM_det (hK _ _ ?_)
              clear hK K)
            refine wpM_step (fun K hK => ?_)
            go_simp
            apply And.intro
            · intro w' hC _
              have hS := HK.out.2.2.2.2.2.1 w' hC
              clear hC
              go_simp
              refine ⟨Ext.refl _, hS.mono ?_⟩
              rintro e w1 ⟨rfl, B⟩
              exact ⟨rfl, B⟩
            refine nextM_det (hK _ _ ?_)
            clear hK K
            iterate 5 (
              refine wpM_step (fun K hK => ?_)
              go_simp
              apply And.intro
              · intro w' hC _
                have q1 := hC.old.1
                have hbs := hC.old.2.2
                clear hC
                go_simp
                exact Ext.refl _
              refine nextM_det (hK _ _ ?_)
              clear hK K)
            refine wpM_step (fun K hK => ?_)
            go_simp
            apply And.intro
            · intro w' hC _
              have hS := HK.out.2.2.2.2.2.2 w' hC
              clear hC
              go_simp
              refine ⟨Ext.refl _, hS.mono ?_⟩
              rintro e w1 ⟨rfl, B⟩
              exact ⟨rfl, B⟩
            refine nextM_det (hK _ _ ?_)
            clear hK K
            iterate 2 (
              refine wpM_step (fun K hK => ?_)
              go_simp
              apply And.intro
              · intro w' hC _
                have q1 := hC.old.1
                have hbs := hC.old.2.2
                clear hC
                go_simp
                exact Ext.refl _
              refine nextM_det (hK _ _ ?_)
              clear hK K)
            refine wpM_nil ?_
            intro W6 hC _
            have HB6 := Lib.hid (HB5.out.1.trans (Below.mono hC HB5.out.1.size))
            clear hC p0 p1 p2 p3 d0 d1 d2 d3 e0' e1' e2' e3' hq1 hq2
            go_wp2_with fail
            go_roundw
            case rel => exact ⟨j + 1, hlt, by go_num, HB6.out⟩
            case measure => simp [intOf]; omega
          · intro y hy
            simp only [List.mem_cons, List.not_mem_nil, or_false] at hy
            rcases hy with rfl | rfl | rfl | rfl | rfl | rfl | rfl | rfl | rfl | rfl | rfl | rfl | rfl | rfl | rfl | rfl | rfl | rfl | rfl | rfl | rfl | rfl | rfl | rfl | rfl | rfl | rfl | rfl | rfl | rfl | rfl | rfl | rfl | rfl | rfl | rfl | rfl | rfl | rfl | rfl | rfl | rfl | rfl | rfl | rfl | rfl | rfl | rfl | rfl | rfl | rfl <;> first | trivial
        · have HJ6 := Lib.hid hBj
          clear hBj
          go_wp2_with fail
          go_ret
          exact ⟨rfl, HJ6.out⟩
end Go.Proofs.YtmjmgeleeacklaaDoor
