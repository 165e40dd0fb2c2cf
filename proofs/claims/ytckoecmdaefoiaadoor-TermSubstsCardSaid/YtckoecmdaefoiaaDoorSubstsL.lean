/- The law of substitutions: a second reading of Subst, Shift and Compose. -/
import Derived.Test.YtckoecmdaefoiaaDoorRefComp
import Derived.Test.YtckoecmdaefoiaaDoorShift
namespace Go.Proofs.YtckoecmdaefoiaaDoor
open Go.RowKit Go

theorem little2 (l m : List Tr) (al am : Option Addr) (cl cm : Nat) (w : World) (h1 : l.length ≤ maxLen) (h2 : m.length ≤ maxLen) (hl : IsL w.heap.size w l al) (hm : IsL w.heap.size w m am) :
    Calls Tryd.prog 37 #[.slice (some ⟨w.heap.size, 0, none⟩) 2 2] (w.alloc (.cells #[.slice al l.length cl, .slice am m.length cm] 22)) fun e w' => e = .returned (.bool (litB l && litB m)) ∧ Below w.heap.size w w' := by
  have hb : Box (w.alloc (.cells #[.slice al l.length cl, .slice am m.length cm] 22)) w.heap.size #[.slice al l.length cl, .slice am m.length cm] 22 := Box.at rfl
  have hB := below_a1 (Nat.le_refl w.heap.size) (.cells #[.slice al l.length cl, .slice am m.length cm] 22)
  refine Calls.mono (little_any [l, m] w.heap.size 0 2 _ (by simp) (by unfold maxLen; simp) (fun j hj => ?_)) ?_
  · match j, hj with
    | 0, _ => exact ⟨al, cl, hb.cell 0, h1, hl.up hB hB.size⟩
    | 1, _ => exact ⟨am, cm, hb.cell 1, h2, hm.up hB hB.size⟩
    | j + 2, hj => exact absurd hj (by simp)
  · rintro e w' ⟨rfl, B⟩
    exact ⟨by simp, up1 B⟩
theorem Subst1 (X : Tr) (l : List Tr) (v : Value) (a : Option Addr) (c : Nat) (w : World) (hT : IsT w.heap.size w X v) (hdp : X.deep ≤ 999999999) (hm : l.length ≤ 1000000) (h4 : l.length ≤ c) (h5 : c ≤ maxLen) (hl : IsL w.heap.size w l a) (hdl : ∀ t, t ∈ l → t.deep ≤ 999999999) (Y : Tr) (x : Int) (hY : substV X l = Y) (hx : substE X l = x) :
    Calls Tryd.prog 38 #[v, .slice a l.length c] w (TrPost Y x w) := by
  subst hY hx
  refine Calls.mono (subst_any X l v a c w hT hdp hm h4 h5 hl hdl) ?_
  rintro e w' ⟨v', rfl, hP, B⟩
  obtain ⟨k, n, s, a', m, c', rfl⟩ := hP.form
  exact ⟨k, n, s, a', m, c', rfl, New.toT hP, B⟩
theorem Subst2 (X : Tr) (l : List Tr) (v : Value) (a : Option Addr) (c : Nat) (w : World) (hT : IsT w.heap.size w X v) (hsz : X.size ≤ 1000000000) (hdp : X.deep ≤ 1000000000) (hm : l.length ≤ 1000000) (hl : IsL w.heap.size w l a) (hsl : ∀ t, t ∈ l → t.size ≤ 1000000000 ∧ t.deep ≤ 1000000000) (Y : Tr) (x : Int) (hY : substV X l = Y) (hx : substE X l = x) :
    Calls Tryd.prog 39 #[v, .slice a l.length c] w (TrPost Y x w) := by
  subst hY hx
  refine Calls.mono (refSubst_any l w.heap.size X v a c w hT (Nat.le_refl _) hl hm hsz hdp hsl) ?_
  rintro e w' ⟨k, n, s, a', m, c', rfl, hP, B⟩
  exact ⟨k, n, s, a', m, c', rfl, IsP.toT (fun _ h => h.2) _ _ hP, B⟩
theorem Shift1 (X : Tr) (n : Int) (hn : okI n) (v : Value) (w : World) (hT : IsT w.heap.size w X v) (hdp : X.deep ≤ 999999999) (Y : Tr) (x : Int) (hY : shV n X = Y) (hx : shE n X = x) :
    Calls Tryd.prog 40 #[v, .int .i64 n] w (TrPost Y x w) := by
  subst hY hx
  refine Calls.mono (shift_any X n hn v w hT hdp) ?_
  rintro e w' ⟨v', rfl, hP, B⟩
  obtain ⟨k, i, s, a', m, c', rfl⟩ := hP.form
  exact ⟨k, i, s, a', m, c', rfl, New.toT hP, B⟩
theorem Shift2 (X : Tr) (n : Int) (hn : okI n) (v : Value) (w : World) (hT : IsT w.heap.size w X v) (hsz : X.size ≤ 1000000000) (hdp : X.deep ≤ 1000000000) (Y : Tr) (x : Int) (hY : shV n X = Y) (hx : shE n X = x) :
    Calls Tryd.prog 41 #[v, .int .i64 n] w (TrPost Y x w) := by
  subst hY hx
  exact refShift_any X n hn v w hT hsz hdp
def CoPost (L : List Tr) (x : Int) (w : World) (e : Ending) (w' : World) : Prop := ∃ ad c, e = .returned (.tuple #[.slice ad L.length c, .int .i64 x]) ∧ L.length ≤ c ∧ c ≤ maxLen ∧ IsL w'.heap.size w' L ad ∧ Below w.heap.size w w'
theorem CoPost.of {la lb : List Tr} {w : World} {e : Ending} {w' : World} {L : List Tr} {x : Int} (h : ComposePost la lb w e w') (hL : compL la lb = L) (hx : compE la lb = x) : CoPost L x w e w' := by
  subst hL hx
  exact h

set_option maxRecDepth 100000 in
set_option maxHeartbeats 8000000 in
theorem termSubsts_any (X : Tr) (l m : List Tr) (n : Int) (hok : okI n) (vt : Value) (al am : Option Addr) (cl cm : Nat) (w : World) (ht : IsT w.heap.size w X vt) (h4l : l.length ≤ cl) (h5l : cl ≤ maxLen) (hl : IsL w.heap.size w l al) (h4m : m.length ≤ cm) (h5m : cm ≤ maxLen) (hm : IsL w.heap.size w m am) (htab : Lib.TabBelow Tryd.prog w.heap.size w "internal/strconv.uint64pow10" .u64 Lib.pow10Tab) :
    Calls Tryd.prog 5 #[vt, .slice al l.length cl, .slice am m.length cm, .int .i64 n] w fun e w' => e = .returned (.bool true) ∧ Below w.heap.size w w' := by
  obtain ⟨kt, nt, st, at', mt, ct, rfl⟩ := (IsT.toP _ _ ht).form
  have bbt : Box (w.alloc (.cells #[.int .i64 kt, .int .i64 nt, .string st, .slice at' mt ct] 25)) w.heap.size #[.int .i64 kt, .int .i64 nt, .string st, .slice at' mt ct] 25 := Box.at rfl
  have hb := below_a1 (Nat.le_refl w.heap.size) (.cells #[.int .i64 kt, .int .i64 nt, .string st, .slice at' mt ct] 25)
  replace ht := ht.up hb hb.size
  replace hl := hl.up hb hb.size
  replace hm := hm.up hb hb.size
  go_enter Tryd.func5, Tryd.ntmps5
  go_wp2_with fail
  refine (sane_any _ (fun w'' h => htab w'' (hb.trans (h.mono hb.size)))).mono ?_
  rintro e W1 ⟨rfl, B⟩
  replace bbt := Box.keep B bbt
  replace ht := ht.up B B.size
  replace hl := hl.up B B.size
  replace hm := hm.up B B.size
  replace hb := hb.trans (B.mono hb.size)
  clear B
  clear htab
  have qt0 := bbt.cell 0
  have qt1 := bbt.cell 1
  have qt2 := bbt.cell 2
  have qt3 := bbt.cell 3
  have lt := bbt.lt
  simp only [List.getElem?_toArray, List.getElem?_cons_succ, List.getElem?_cons_zero] at qt0 qt1 qt2 qt3
  go_wp2_with fail
  clear qt0 qt1 qt2 qt3 lt
  obtain ⟨sa0, sc0, he0, hs1, hs2, hs3⟩ := isS1 ht
  cases he0
  refine (small_any [X] _ 1 _ (by unfold maxLen; simp) hs3).mono ?_
  rintro e W2 ⟨rfl, B⟩
  replace B := up1 B
  replace bbt := Box.keep B bbt
  replace ht := ht.up B B.size
  replace hl := hl.up B B.size
  replace hm := hm.up B B.size
  replace hb := hb.trans (B.mono hb.size)
  clear B
  clear hs1 hs2 hs3
  cases hr : smallB [X] with
  | false =>
    clear hr
    go_wp2_with fail
    go_ret
    exact ⟨rfl, hb⟩
  | true =>
    have HX := Lib.hid (small_mem hr (t := X) (by simp))
    clear hr
    go_wp2_with fail
    refine (little2 l m al am cl cm _ (Nat.le_trans h4l h5l) (Nat.le_trans h4m h5m) hl hm).mono ?_
    rintro e W3 ⟨rfl, B⟩
    replace bbt := Box.keep B bbt
    replace ht := ht.up B B.size
    replace hl := hl.up B B.size
    replace hm := hm.up B B.size
    replace hb := hb.trans (B.mono hb.size)
    clear B
    cases hr : (litB l && litB m) with
    | false =>
      clear hr
      go_wp2_with fail
      go_ret
      exact ⟨rfl, hb⟩
    | true =>
      have hlit : (l.length ≤ 60 ∧ smallB l = true) ∧ (m.length ≤ 60 ∧ smallB m = true) := by simpa [litB] using hr
      have HLIT := Lib.hid hlit
      have HDL : Hid (∀ t, t ∈ l → t.size ≤ 1500 ∧ t.deep ≤ 700) := fun t ht => small_mem hlit.1.2 ht
      have HDM : Hid (∀ t, t ∈ m → t.size ≤ 1500 ∧ t.deep ≤ 700) := fun t ht => small_mem hlit.2.2 ht
      clear hr hlit
      obtain ⟨Y, hY⟩ : ∃ Y, substV X l = Y := ⟨_, rfl⟩
      obtain ⟨Z, hZ⟩ : ∃ Y, shV n X = Y := ⟨_, rfl⟩
      obtain ⟨xy, hxy⟩ : ∃ x, substE X l = x := ⟨_, rfl⟩
      obtain ⟨xz, hxz⟩ : ∃ x, shE n X = x := ⟨_, rfl⟩
      have HYZ := Lib.hid (And.intro hY (And.intro hxy (And.intro hZ hxz)))
      clear hY hxy hZ hxz
      have qt0 := bbt.cell 0
      have qt1 := bbt.cell 1
      have qt2 := bbt.cell 2
      have qt3 := bbt.cell 3
      have lt := bbt.lt
      simp only [List.getElem?_toArray, List.getElem?_cons_succ, List.getElem?_cons_zero] at qt0 qt1 qt2 qt3
      go_wp2_with fail
      clear qt0 qt1 qt2 qt3 lt
      refine (Subst1 X l _ al cl _ ht (by have := HX.out; omega) (by have := HLIT.out; omega) h4l h5l hl (fun t h => by have := HDL.out t h; omega) Y xy HYZ.out.1 HYZ.out.2.1).mono ?_
      rintro e W4 ⟨kp, np, sp, ap, mp, cp, rfl, hp, B⟩
      replace bbt := Box.keep B bbt
      replace ht := ht.up B B.size
      replace hl := hl.up B B.size
      replace hm := hm.up B B.size
      replace hb := hb.trans (B.mono hb.size)
      clear B
      have qt0 := bbt.cell 0
      have qt1 := bbt.cell 1
      have qt2 := bbt.cell 2
      have qt3 := bbt.cell 3
      have lt := bbt.lt
      simp only [List.getElem?_toArray, List.getElem?_cons_succ, List.getElem?_cons_zero] at qt0 qt1 qt2 qt3
      go_wp2_with fail
      clear qt0 qt1 qt2 qt3 lt
      have bbp : Box (W4.alloc (.cells #[.int .i64 kp, .int .i64 np, .string sp, .slice ap mp cp] 25)) W4.heap.size #[.int .i64 kp, .int .i64 np, .string sp, .slice ap mp cp] 25 := Box.at rfl
      have B := below_a1 (Nat.le_refl W4.heap.size) (.cells #[.int .i64 kp, .int .i64 np, .string sp, .slice ap mp cp] 25)
      replace bbt := Box.keep B bbt
      replace ht := ht.up B B.size
      replace hl := hl.up B B.size
      replace hm := hm.up B B.size
      replace hp := hp.up B B.size
      replace hb := hb.trans (B.mono hb.size)
      clear B
      generalize (W4.alloc (.cells #[.int .i64 kp, .int .i64 np, .string sp, .slice ap mp cp] 25)) = V5 at *
      refine (Subst2 X l _ al cl _ ht (by have := HX.out; omega) (by have := HX.out; omega) (by have := HLIT.out; omega) hl (fun t h => by have := HDL.out t h; omega) Y xy HYZ.out.1 HYZ.out.2.1).mono ?_
      rintro e W6 ⟨kq, nq, sq, aq, mq, cq, rfl, hq, B⟩
      replace bbt := Box.keep B bbt
      replace bbp := Box.keep B bbp
      replace ht := ht.up B B.size
      replace hl := hl.up B B.size
      replace hm := hm.up B B.size
      replace hp := hp.up B B.size
      replace hb := hb.trans (B.mono hb.size)
      clear B
      have qt0 := bbt.cell 0
      have qt1 := bbt.cell 1
      have qt2 := bbt.cell 2
      have qt3 := bbt.cell 3
      have lt := bbt.lt
      simp only [List.getElem?_toArray, List.getElem?_cons_succ, List.getElem?_cons_zero] at qt0 qt1 qt2 qt3
      go_wp2_with fail
      clear qt0 qt1 qt2 qt3 lt
      have bbq : Box (W6.alloc (.cells #[.int .i64 kq, .int .i64 nq, .string sq, .slice aq mq cq] 25)) W6.heap.size #[.int .i64 kq, .int .i64 nq, .string sq, .slice aq mq cq] 25 := Box.at rfl
      have B := below_a1 (Nat.le_refl W6.heap.size) (.cells #[.int .i64 kq, .int .i64 nq, .string sq, .slice aq mq cq] 25)
      replace bbt := Box.keep B bbt
      replace bbp := Box.keep B bbp
      replace ht := ht.up B B.size
      replace hl := hl.up B B.size
      replace hm := hm.up B B.size
      replace hp := hp.up B B.size
      replace hq := hq.up B B.size
      replace hb := hb.trans (B.mono hb.size)
      clear B
      generalize (W6.alloc (.cells #[.int .i64 kq, .int .i64 nq, .string sq, .slice aq mq cq] 25)) = V7 at *
      refine (Shift1 X n hok _ _ ht (by have := HX.out; omega) Z xz HYZ.out.2.2.1 HYZ.out.2.2.2).mono ?_
      rintro e W8 ⟨ky, ny, sy, ay, my, cy, rfl, hy, B⟩
      replace bbt := Box.keep B bbt
      replace bbp := Box.keep B bbp
      replace bbq := Box.keep B bbq
      replace ht := ht.up B B.size
      replace hl := hl.up B B.size
      replace hm := hm.up B B.size
      replace hp := hp.up B B.size
      replace hq := hq.up B B.size
      replace hb := hb.trans (B.mono hb.size)
      clear B
      have qt0 := bbt.cell 0
      have qt1 := bbt.cell 1
      have qt2 := bbt.cell 2
      have qt3 := bbt.cell 3
      have lt := bbt.lt
      simp only [List.getElem?_toArray, List.getElem?_cons_succ, List.getElem?_cons_zero] at qt0 qt1 qt2 qt3
      go_wp2_with fail
      clear qt0 qt1 qt2 qt3 lt
      have bby : Box (W8.alloc (.cells #[.int .i64 ky, .int .i64 ny, .string sy, .slice ay my cy] 25)) W8.heap.size #[.int .i64 ky, .int .i64 ny, .string sy, .slice ay my cy] 25 := Box.at rfl
      have B := below_a1 (Nat.le_refl W8.heap.size) (.cells #[.int .i64 ky, .int .i64 ny, .string sy, .slice ay my cy] 25)
      replace bbt := Box.keep B bbt
      replace bbp := Box.keep B bbp
      replace bbq := Box.keep B bbq
      replace ht := ht.up B B.size
      replace hl := hl.up B B.size
      replace hm := hm.up B B.size
      replace hp := hp.up B B.size
      replace hq := hq.up B B.size
      replace hy := hy.up B B.size
      replace hb := hb.trans (B.mono hb.size)
      clear B
      generalize (W8.alloc (.cells #[.int .i64 ky, .int .i64 ny, .string sy, .slice ay my cy] 25)) = V9 at *
      refine (Shift2 X n hok _ _ ht (by have := HX.out; omega) (by have := HX.out; omega) Z xz HYZ.out.2.2.1 HYZ.out.2.2.2).mono ?_
      rintro e W10 ⟨kz, nz, sz, az, mz, cz, rfl, hz, B⟩
      replace bbt := Box.keep B bbt
      replace bbp := Box.keep B bbp
      replace bbq := Box.keep B bbq
      replace bby := Box.keep B bby
      replace ht := ht.up B B.size
      replace hl := hl.up B B.size
      replace hm := hm.up B B.size
      replace hp := hp.up B B.size
      replace hq := hq.up B B.size
      replace hy := hy.up B B.size
      replace hb := hb.trans (B.mono hb.size)
      clear B
      clear bbt ht
      have qp0 := bbp.cell 0
      have qp1 := bbp.cell 1
      have qp2 := bbp.cell 2
      have qp3 := bbp.cell 3
      have qq0 := bbq.cell 0
      have qq1 := bbq.cell 1
      have qq2 := bbq.cell 2
      have qq3 := bbq.cell 3
      have lp := bbp.lt
      have lq := bbq.lt
      simp only [List.getElem?_toArray, List.getElem?_cons_succ, List.getElem?_cons_zero] at qp0 qp1 qp2 qp3 qq0 qq1 qq2 qq3
      go_wp2_with fail
      clear qp0 qp1 qp2 qp3 qq0 qq1 qq2 qq3 lp lq
      have bbz : Box (W10.alloc (.cells #[.int .i64 kz, .int .i64 nz, .string sz, .slice az mz cz] 25)) W10.heap.size #[.int .i64 kz, .int .i64 nz, .string sz, .slice az mz cz] 25 := Box.at rfl
      have B := below_a1 (Nat.le_refl W10.heap.size) (.cells #[.int .i64 kz, .int .i64 nz, .string sz, .slice az mz cz] 25)
      replace bbp := Box.keep B bbp
      replace bbq := Box.keep B bbq
      replace bby := Box.keep B bby
      replace hl := hl.up B B.size
      replace hm := hm.up B B.size
      replace hp := hp.up B B.size
      replace hq := hq.up B B.size
      replace hy := hy.up B B.size
      replace hz := hz.up B B.size
      replace hb := hb.trans (B.mono hb.size)
      clear B
      generalize (W10.alloc (.cells #[.int .i64 kz, .int .i64 nz, .string sz, .slice az mz cz] 25)) = V11 at *
      refine (sane_same Y _ _ _ hp hq).mono ?_
      rintro e W12 ⟨rfl, B⟩
      replace bbp := Box.keep B bbp
      replace bbq := Box.keep B bbq
      replace bby := Box.keep B bby
      replace bbz := Box.keep B bbz
      replace hl := hl.up B B.size
      replace hm := hm.up B B.size
      replace hp := hp.up B B.size
      replace hq := hq.up B B.size
      replace hy := hy.up B B.size
      replace hz := hz.up B B.size
      replace hb := hb.trans (B.mono hb.size)
      clear B
      clear bbp hp bbq hq
      have qy0 := bby.cell 0
      have qy1 := bby.cell 1
      have qy2 := bby.cell 2
      have qy3 := bby.cell 3
      have qz0 := bbz.cell 0
      have qz1 := bbz.cell 1
      have qz2 := bbz.cell 2
      have qz3 := bbz.cell 3
      have ly := bby.lt
      have lz := bbz.lt
      simp only [List.getElem?_toArray, List.getElem?_cons_succ, List.getElem?_cons_zero] at qy0 qy1 qy2 qy3 qz0 qz1 qz2 qz3
      go_wp2_with fail
      clear qy0 qy1 qy2 qy3 qz0 qz1 qz2 qz3 ly lz
      refine (sane_same Z _ _ _ hy hz).mono ?_
      rintro e W13 ⟨rfl, B⟩
      replace bby := Box.keep B bby
      replace bbz := Box.keep B bbz
      replace hl := hl.up B B.size
      replace hm := hm.up B B.size
      replace hy := hy.up B B.size
      replace hz := hz.up B B.size
      replace hb := hb.trans (B.mono hb.size)
      clear B
      clear bby hy bbz hz
      obtain ⟨Q, hQ⟩ : ∃ Q, compL l m = Q := ⟨_, rfl⟩
      obtain ⟨xq, hxq⟩ : ∃ x, compE l m = x := ⟨_, rfl⟩
      have HQ := Lib.hid (And.intro hQ hxq)
      clear hQ hxq
      go_wp2_with fail
      refine ((compose_any l m al am cl cm _ h4l h5l h4m h5m (by have := HLIT.out; omega) (by have := HLIT.out; omega) hl hm (fun t h => by have := HDL.out t h; omega) (fun t h => by have := HDM.out t h; omega)).mono (fun _ _ h => CoPost.of h HQ.out.1 HQ.out.2)).mono ?_
      rintro e W14 ⟨au, cu, rfl, h4u, h5u, hu, B⟩
      replace hl := hl.up B B.size
      replace hm := hm.up B B.size
      replace hb := hb.trans (B.mono hb.size)
      clear B
      go_wp2_with fail
      refine ((refCompose_any l m al am cl cm _ hl hm (by have := HLIT.out; omega) (by have := HLIT.out; omega) (fun t h => by have := HDL.out t h; omega) (fun t h => by have := HDM.out t h; omega)).mono (fun _ _ h => CoPost.of h HQ.out.1 HQ.out.2)).mono ?_
      rintro e W15 ⟨av, cv, rfl, h4v, h5v, hv, B⟩
      replace hl := hl.up B B.size
      replace hm := hm.up B B.size
      replace hu := hu.up B B.size
      replace hb := hb.trans (B.mono hb.size)
      clear B
      go_wp2_with fail
      refine (sane_all Q _ _ _ ⟨au, cu, rfl, h4u, h5u, hu⟩ ⟨av, cv, rfl, h4v, h5v, hv⟩).mono ?_
      rintro e W16 ⟨rfl, B⟩
      replace hl := hl.up B B.size
      replace hm := hm.up B B.size
      replace hu := hu.up B B.size
      replace hv := hv.up B B.size
      replace hb := hb.trans (B.mono hb.size)
      clear B
      go_wp2_with fail
      go_ret
      exact ⟨rfl, hb⟩
end Go.Proofs.YtckoecmdaefoiaaDoor
