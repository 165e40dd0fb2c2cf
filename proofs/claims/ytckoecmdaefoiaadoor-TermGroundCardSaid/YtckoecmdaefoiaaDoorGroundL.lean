/- The law of variables of instances. -/
import Derived.Test.YtckoecmdaefoiaaDoorWant
import Derived.Test.YtckoecmdaefoiaaDoorTog
namespace Go.Proofs.YtckoecmdaefoiaaDoor
open Go.RowKit Go Go.Maps

attribute [local go_sem] monoUpon Yld.says

/-- What the law wants of a variable of the term. -/
def wantV (l : List Tr) (x : Int) : List Int := if x < l.length ∧ (l.getD x.toNat default).free = false then vars1 (l.getD x.toNat default) else [x]
def wantL (l : List Tr) (vs : List Int) : List Int := vs.foldl (fun S x => addL S (wantV l x)) []
theorem wantL_take {l : List Tr} {vs : List Int} {j : Nat} (h : j < vs.length) : wantL l (vs.take (j + 1)) = addL (wantL l (vs.take j)) (wantV l vs[j]) := by
  rw [wantL, List.take_succ_eq_append_getElem h, List.foldl_append]
  rfl
theorem want_fold {l : List Tr} {y : Int} : ∀ (vs : List Int) (S : List Int), y ∈ vs.foldl (fun S x => addL S (wantV l x)) S ↔ y ∈ S ∨ ∃ x, x ∈ vs ∧ y ∈ wantV l x
  | [], S => by simp
  | x :: vs, S => by
    rw [List.foldl_cons, want_fold vs, addL_mem]
    simp [or_assoc]
theorem want_nodup {l : List Tr} : ∀ (vs : List Int) {S : List Int}, S.Nodup → (vs.foldl (fun S x => addL S (wantV l x)) S).Nodup
  | [], _, h => h
  | x :: vs, _, h => want_nodup vs (addL_nodup (wantV l x) h)
theorem wantV_occ {l : List Tr} (hl : subOkB l = true) {x : Int} (h0 : 0 ≤ x) (h1 : x < 100000) {y : Int} : y ∈ wantV l x ↔ occ y (sgS l x) := by
  rw [want_eq hl h0, wantV]
  by_cases h : x < l.length ∧ (l.getD x.toNat default).free = false
  · rw [if_pos h, if_pos h]
    have hm : l.getD x.toNat default ∈ l := getD_mem (by omega)
    rcases subOk_mem hl hm with hf | hf
    · rw [hf] at h; cases h.2
    · exact vars1_mem (isB_is hf).1
  · rw [if_neg h, if_neg h]
    simp only [tV, occ, List.mem_singleton]
    constructor
    · rintro rfl; exact .inl ⟨trivial, rfl⟩
    · rintro (⟨_, h⟩ | ⟨h, _⟩)
      · exact h.symm
      · exact absurd rfl h
theorem occ_sbs {σ : Int → Tr} {y : Int} : ∀ T : Tr, T.good = true → (occ y (sbs σ T) ↔ ∃ x, occ x T ∧ occ y (σ x)) := by
  intro T
  induction T using Tr.ind with
  | h k n s l ih =>
  intro hg
  simp only [Tr.good, Bool.and_eq_true] at hg
  rw [sbs]
  by_cases hk : k = 1
  · rw [if_pos hk]
    constructor
    · intro h; exact ⟨n, .inl ⟨hk, rfl⟩, h⟩
    · rintro ⟨x, hx, h⟩
      rcases hx with ⟨_, rfl⟩ | ⟨h', _⟩
      · exact h
      · exact absurd hk h'
  · rw [if_neg hk]
    have key : ∀ ts : List Tr, (∀ t, t ∈ ts → t ∈ l) → goodL ts = true → (occL y (sbsL σ ts) ↔ ∃ x, occL x ts ∧ occ y (σ x)) := by
      intro ts
      induction ts with
      | nil => intro _ _; simp [sbsL, occL]
      | cons t ts ih2 =>
        intro hm hgt
        simp only [goodL, Bool.and_eq_true] at hgt
        simp only [sbsL, occL]
        rw [ih t (hm t (by simp)) hgt.1, ih2 (fun u hu => hm u (by simp [hu])) hgt.2]
        constructor
        · rintro (⟨x, h1, h2⟩ | ⟨x, h1, h2⟩)
          · exact ⟨x, .inl h1, h2⟩
          · exact ⟨x, .inr h1, h2⟩
        · rintro ⟨x, h1 | h1, h2⟩
          · exact .inl ⟨x, h1, h2⟩
          · exact .inr ⟨x, h1, h2⟩
    have := key l (fun _ h => h) hg.2
    simp only [occ]
    constructor
    · rintro (⟨h, _⟩ | ⟨_, h⟩)
      · exact absurd h hk
      · obtain ⟨x, h1, h2⟩ := this.1 h
        exact ⟨x, .inr ⟨hk, h1⟩, h2⟩
    · rintro ⟨x, h1, h2⟩
      rcases h1 with ⟨h, _⟩ | ⟨_, h⟩
      · exact absurd h hk
      · exact .inr ⟨hk, this.2 ⟨x, h, h2⟩⟩
/-- The variables of an instance. -/
theorem inst_vars {l : List Tr} {X : Tr} (hX : isB X = true) (hl : subOkB l = true) (hs : isB (subT l X) = true) {y : Int} : y ∈ vars1 (subT l X) ↔ y ∈ wantL l (vars1 X) := by
  have hg := (isB_is hX).1
  rw [vars1_mem (isB_is hs).1, subT_sbs l X hg, occ_sbs X hg, wantL, want_fold]
  simp only [List.not_mem_nil, false_or]
  refine exists_congr fun x => ?_
  rw [vars1_mem hg]
  exact and_congr_right fun hx => (wantV_occ hl (occ_range X x hg hx).1 (occ_range X x hg hx).2).symm
theorem inst_len {l : List Tr} {X : Tr} (hX : isB X = true) (hl : subOkB l = true) (hs : isB (subT l X) = true) : (vars1 (subT l X)).length = (wantL l (vars1 X)).length :=
  same_length (vars1_nodup _) (want_nodup _ List.nodup_nil) fun _ => inst_vars hX hl hs
theorem grd_sub {l : List Tr} {X : Tr} (hX : isB X = true) (hg : grdB X = true) : subT l X = X := by
  have h := (isB_is hX).1
  have hv := (grd_iff h).1 hg
  rw [subT_sbs l X h]
  refine Eq.trans ((sbs_eq X).2 fun x hx => ?_) (sbs_id h)
  have := (vars1_mem h).2 hx
  rw [hv] at this
  cases this
theorem SetM.len {W : World} {b n : Nat} {S : List Int} (h : SetM W b n S) (ty : TypeId) : (Builtin.len_ #[81] ty #[.map (some b)]).run Tryd.prog W = .ok (.int .i64 S.length) W := by
  obtain ⟨D, h, _, hs, _⟩ := h
  rw [← hs]
  exact h.len Tryd.underlying81 ty
theorem RdN.rise {A W : World} {ns : List Int} {v : Value} (h : RdN A.heap.size A ns v) (B : Below A.heap.size A W) : RdN W.heap.size W ns v := h.keep B B.size
theorem Ground_ok {X : Tr} (hX : isB X = true) (g : Bool) (hg : grdB X = g) (v : Value) (w : World) (h : IsT w.heap.size w X v) : Calls Tryd.prog 69 #[v] w fun e w' => e = .returned (.tuple #[.bool g, .int .i64 0]) ∧ Below w.heap.size w w' := by
  refine (ground_any X v w h (by have := (isB_size hX).2; omega)).mono ?_
  rintro e w' ⟨rfl, B⟩
  rw [hX, hg]
  exact ⟨rfl, B⟩
theorem Times_ok {X : Tr} (hX : isB X = true) (x : Int) (m : Nat) (hm : tmsT x X = m) (v : Value) (w : World) (h : IsT w.heap.size w X v) : Calls Tryd.prog 70 #[v, .int .i64 x] w fun e w' => e = .returned (.tuple #[.int .i64 (m : Int), .int .i64 0]) ∧ Below w.heap.size w w' := by
  refine (times_any X x v w h (by have := (isB_size hX).2; omega)).mono ?_
  rintro e w' ⟨rfl, B⟩
  rw [hX, hm]
  exact ⟨rfl, B⟩
/-- One element of a list, as a list. -/
theorem IsL.one {n₀ : Nat} {W : World} {l : List Tr} {b off : Nat} (h : IsL n₀ W l (some ⟨b, off, none⟩)) (hb : b < n₀) (i : Nat) (hi : i < l.length) : IsL n₀ W [l[i]] (some ⟨b, off + i * 4, none⟩) := by
  obtain ⟨v0, v1, v2, v3, c0, c1, c2, c3, ht⟩ := h.get i hi
  exact IsL.cons hb c0 c1 c2 c3 ht IsL.nil
theorem Vars_elt {t : Tr} (ht : isB t = true) (b off : Nat) (w : World) (h : IsL w.heap.size w [t] (some ⟨b, off, none⟩)) :
    Calls Tryd.prog 66 #[.slice (some ⟨b, off, none⟩) 1 1] w fun e w' => ∃ a c, e = .returned (.tuple #[.slice a (vars1 t).length c, .int .i64 0]) ∧ RdN w'.heap.size w' (vars1 t) (.slice a (vars1 t).length c) ∧ Below w.heap.size w w' := by
  refine Calls.mono (Vars_any [t] _ 1 w (by unfold maxLen; simp) h (by intro u hu; simp at hu; subst hu; have := (isB_size ht).2; omega)) ?_
  rintro e w' ⟨B, hh⟩
  rw [tog1, ht] at hh
  obtain ⟨v, rfl, hn⟩ := hh
  have hr : RdN w'.heap.size w' (vars1 t) v := hn.rd
  have hr' := hr
  obtain ⟨a, c, rfl, _⟩ := hr'
  exact ⟨a, c, rfl, hr, B⟩
theorem vars1_length {T : Tr} (h : isB T = true) : (vars1 T).length ≤ 4000 := by
  have h1 := varsP_length [] (preT 1 T)
  rw [preT_length] at h1
  have := (isB_size h).1
  unfold vars1
  simp at h1
  omega
/-- Between the rounds of the law's loops. -/
def GInv (w : World) (S : List Int) (K : Nat) (wr : World) : Prop := ∃ k, k ≤ K ∧ SetM wr w.heap.size k S ∧ Box wr (w.heap.size + 1) #[.map (some w.heap.size)] 81 ∧ Below w.heap.size w wr
theorem GInv.up {w wr W : World} {S : List Int} {K : Nat} (h : GInv w S K wr) (B : Below wr.heap.size wr W) : GInv w S K W := by
  obtain ⟨k, h1, h2, h3, h4⟩ := h
  exact ⟨k, h1, h2.keep B, Box.keep B h3, h4.trans (B.mono h4.size)⟩
theorem GInv.start (w : World) : GInv w [] 0 ((w.alloc (.map #[] 0)).alloc (.cells #[.map (some w.heap.size)] 81)) :=
  ⟨0, Nat.le_refl _, (SetM.made w).kept (World.grownBy_alloc _ _ none) (by simp), Box.at (by simp), below_a2 (Nat.le_refl _) _ _⟩
theorem GInv.put {w wr : World} {S : List Int} {K : Nat} (h : GInv w S K wr) (hK : K ≤ 1000000000) {x : Int} (hx : okI x) : ∃ w', (Instr.mapUpdate 81 (.map (some w.heap.size)) (.int .i64 x) (.bool true)).run Tryd.prog wr = .ok () w' ∧ GInv w (addI S x) (K + 1) w' ∧ wr.grownBy w' (some w.heap.size) := by
  obtain ⟨k, h1, h2, h3, h4⟩ := h
  obtain ⟨w', hr, hm, hg⟩ := h2.put (by unfold maxLen; omega) hx
  exact ⟨w', hr, ⟨k + 1, by omega, hm, (hg.block _ h3.lt (by simp)).trans h3, h4.trans (grown_below' hg h4.size (fun g e => by cases e; exact Nat.le_refl _))⟩, hg⟩
theorem GInv.box {w wr : World} {S : List Int} {K : Nat} (h : GInv w S K wr) : wr.cell? ⟨w.heap.size + 1, 0, none⟩ = some (.map (some w.heap.size)) ∧ w.heap.size + 1 < wr.heap.size := by
  obtain ⟨k, h1, h2, h3, h4⟩ := h
  exact ⟨h3.cell 0, h3.lt⟩
theorem GInv.below {w wr : World} {S : List Int} {K : Nat} (h : GInv w S K wr) : Below w.heap.size w wr := by
  obtain ⟨k, h1, h2, h3, h4⟩ := h
  exact h4
theorem GInv.len {w wr : World} {S : List Int} {K : Nat} (h : GInv w S K wr) (ty : TypeId) : (Builtin.len_ #[81] ty #[.map (some w.heap.size)]).run Tryd.prog wr = .ok (.int .i64 S.length) wr := by
  obtain ⟨k, h1, h2, h3, h4⟩ := h
  exact h2.len ty
theorem GInv.not_cell {w wr : World} {S : List Int} {K : Nat} (h : GInv w S K wr) {p : Addr} {v : Value} (hc : wr.cell? p = some v) : p.block ≠ w.heap.size := fun e => by
  obtain ⟨k, h1, ⟨D, ⟨es, clock, hm, _⟩, _⟩, h3, h4⟩ := h
  unfold World.cell? at hc
  rw [e, hm] at hc
  cases hc
theorem GInv.mono {w wr : World} {S : List Int} {K K' : Nat} (h : GInv w S K wr) (hK : K ≤ K') : GInv w S K' wr := by
  obtain ⟨k, h1, h2, h3, h4⟩ := h
  exact ⟨k, Nat.le_trans h1 hK, h2, h3, h4⟩
theorem GInv.next {w wr : World} {l : List Tr} {vs ys : List Int} {j K : Nat} {x : Int} (h : GInv w (addL (wantL l (vs.take j)) ys) K wr) (hlt : j < vs.length) (hx : vs[j] = x) (hw : wantV l x = ys) (hK : K ≤ (j + 1) * 5000) : GInv w (wantL l (vs.take (j + 1))) ((j + 1) * 5000) wr := by
  rw [wantL_take hlt]
  rw [hx, hw]
  exact h.mono hK
theorem GInv.want {w wr : World} {S : List Int} {K : Nat} (h : GInv w S K wr) {x : Int} (hx : okI x) (W : World) (B : Below wr.heap.size wr W) :
    Calls Tryd.prog 73 #[.int .i64 x, .pointer (some ⟨w.heap.size + 1, 0, none⟩)] W fun e W' => e = .returned (.bool (!decide (x ∈ S))) ∧ Below W.heap.size W W' := by
  obtain ⟨k, h1, h2, h3, h4⟩ := h
  exact notWant_any (w.heap.size + 1) w.heap.size k S W x hx (Box.keep B h3) (h2.keep B)

set_option maxRecDepth 100000 in
set_option maxHeartbeats 8000000 in
theorem termGround_any (X : Tr) (l : List Tr) (vt : Value) (al : Option Addr) (cl : Nat) (w : World) (ht : IsT w.heap.size w X vt) (h4 : l.length ≤ cl) (h5 : cl ≤ maxLen) (hl : IsL w.heap.size w l al) (htab : Lib.TabBelow Tryd.prog w.heap.size w "internal/strconv.uint64pow10" .u64 Lib.pow10Tab) :
    Calls Tryd.prog 15 #[vt, .slice al l.length cl] w fun e w' => e = .returned (.bool true) ∧ Below w.heap.size w w' := by
  obtain ⟨kt, nt, st, at', mt, ct, rfl⟩ := (IsT.toP _ _ ht).form
  have hlm : l.length ≤ 9223372036854775807 := by unfold maxLen at h5; omega
  have bbt : Box (w.alloc (.cells #[.int .i64 kt, .int .i64 nt, .string st, .slice at' mt ct] 25)) w.heap.size #[.int .i64 kt, .int .i64 nt, .string st, .slice at' mt ct] 25 := Box.at rfl
  have hb := below_a1 (Nat.le_refl w.heap.size) (.cells #[.int .i64 kt, .int .i64 nt, .string st, .slice at' mt ct] 25)
  replace ht := ht.up hb hb.size
  replace hl := hl.up hb hb.size
  go_enter Tryd.func15, Tryd.ntmps15
  go_wp2_with fail
  refine (sane_any _ (fun w'' h => htab w'' (hb.trans (h.mono hb.size)))).mono ?_
  rintro e W1 ⟨rfl, B⟩
  replace bbt := Box.keep B bbt
  replace ht := ht.up B B.size
  replace hl := hl.up B B.size
  replace hb := hb.trans (B.mono hb.size)
  clear B
  clear htab
  have qt0 := bbt.cell 0
  have qt1 := bbt.cell 1
  have qt2 := bbt.cell 2
  have qt3 := bbt.cell 3
  have lt := bbt.lt
  simp only [List.getElem?_toArray, List.getElem?_cons_succ, List.getElem?_cons_zero] at qt0 qt1 qt2 qt3
  go_wp2_with fail
  clear qt0 qt1 qt2 qt3 lt
  obtain ⟨sa0, sc0, he0, hs1, hs2, hs3⟩ := isS1 ht
  cases he0
  refine (right_any [X] _ 1 _ (by unfold maxLen; simp) hs3).mono ?_
  rintro e W2 ⟨rfl, B⟩
  replace B := up1 B
  replace bbt := Box.keep B bbt
  replace ht := ht.up B B.size
  replace hl := hl.up B B.size
  replace hb := hb.trans (B.mono hb.size)
  clear B
  clear hs1 hs2 hs3
  cases hr : rightB [X] with
  | false =>
    clear hr
    go_wp2_with fail
    go_ret
    exact ⟨rfl, hb⟩
  | true =>
    have HX := Lib.hid (rightB_mem hr (t := X) (by simp)).1
    clear hr
    go_wp2_with fail
    refine (little1 l al cl _ (Nat.le_trans h4 h5) hl).mono ?_
    rintro e W3 ⟨rfl, B⟩
    replace bbt := Box.keep B bbt
    replace ht := ht.up B B.size
    replace hl := hl.up B B.size
    replace hb := hb.trans (B.mono hb.size)
    clear B
    cases hr : litB l with
    | false =>
      clear hr
      go_wp2_with fail
      go_ret
      exact ⟨rfl, hb⟩
    | true =>
      have hlit : l.length ≤ 60 ∧ smallB l = true := by simpa [litB] using hr
      have HLIT := Lib.hid hlit
      clear hr hlit
      go_wp2_with fail
      refine (refIsSubst_any l al cl _ (by have := HLIT.out.1; omega) hl (fun t ht => by have := small_mem HLIT.out.2 ht; omega)).mono ?_
      rintro e W4 ⟨rfl, B⟩
      replace bbt := Box.keep B bbt
      replace ht := ht.up B B.size
      replace hl := hl.up B B.size
      replace hb := hb.trans (B.mono hb.size)
      clear B
      cases hr : subOkB l with
      | false =>
        clear hr
        go_wp2_with fail
        go_ret
        exact ⟨rfl, hb⟩
      | true =>
        have HS := Lib.hid hr
        clear hr
        obtain ⟨g, hg⟩ : ∃ g, grdB X = g := ⟨_, rfl⟩
        have HG := Lib.hid hg
        clear hg
        have qt0 := bbt.cell 0
        have qt1 := bbt.cell 1
        have qt2 := bbt.cell 2
        have qt3 := bbt.cell 3
        have lt := bbt.lt
        simp only [List.getElem?_toArray, List.getElem?_cons_succ, List.getElem?_cons_zero] at qt0 qt1 qt2 qt3
        go_wp2_with fail
        clear qt0 qt1 qt2 qt3 lt
        refine (Ground_ok HX.out g HG.out _ _ ht).mono ?_
        rintro e W5 ⟨rfl, B⟩
        replace bbt := Box.keep B bbt
        replace ht := ht.up B B.size
        replace hl := hl.up B B.size
        replace hb := hb.trans (B.mono hb.size)
        clear B
        have qt0 := bbt.cell 0
        have qt1 := bbt.cell 1
        have qt2 := bbt.cell 2
        have qt3 := bbt.cell 3
        have lt := bbt.lt
        simp only [List.getElem?_toArray, List.getElem?_cons_succ, List.getElem?_cons_zero] at qt0 qt1 qt2 qt3
        go_wp2_with fail
        clear qt0 qt1 qt2 qt3 lt
        refine (Vars_one HX.out _ _ _ _ _ ht).mono ?_
        rintro e W6 ⟨au, cu, rfl, hu, B⟩
        replace bbt := Box.keep B bbt
        replace ht := ht.up B B.size
        replace hl := hl.up B B.size
        replace hb := hb.trans (B.mono hb.size)
        clear B
        have HVR : Hid (∀ x, x ∈ vars1 X → 0 ≤ x ∧ x < 100000 ∧ 1 ≤ tmsT x X) := fun x hx => by
          have h1 := occ_range X x (isB_is HX.out).1 ((vars1_mem (isB_is HX.out).1).1 hx)
          exact ⟨h1.1, h1.2, tms_pos (isB_is HX.out).1 hx⟩
        have HVS := Lib.hid (tms_all (isB_is HX.out).1)
        have hvl := vars1_length HX.out
        have hgz : ((((vars1 X).length : Nat) : Int) == 0) = g := by
          have h := grd_iff (isB_is HX.out).1
          rw [HG.out] at h
          rw [Bool.eq_iff_iff, h, beq_iff_eq]
          constructor
          · intro h; exact List.length_eq_zero_iff.1 (by omega)
          · intro h; rw [h]; rfl
        have HIV : Hid (∀ hs : isB (subT l X) = true, (vars1 (subT l X)).length = (wantL l (vars1 X)).length ∧ ∀ y, y ∈ vars1 (subT l X) → y ∈ wantL l (vars1 X)) := fun hs => ⟨inst_len HX.out HS.out hs, fun y hy => (inst_vars HX.out HS.out hs).1 hy⟩
        generalize vars1 X = vs at *
        obtain ⟨au', cu', hue, hum, huc⟩ := hu
        cases hue
        have HU := Lib.hid huc
        have hvl' : vs.length ≤ 9223372036854775807 := by omega
        clear huc hum
        have hmm := @run_makeMap Tryd.prog
        go_wp2_with fail
        have hI0 := GInv.start W6
        have HBT := Lib.hid (And.intro bbt (And.intro ht (And.intro hl hb)))
        clear bbt ht hl hb hmm
        go_loopw [9, 64] (fun av i wr => ∃ (j A : Nat), j ≤ vs.length ∧ i = .int .i64 j ∧ av = .int .i64 (A : Int) ∧ A = ((vs.take j).map fun v => tmsT v X).sum ∧ A ≤ j * 4000 ∧ GInv W6 (wantL l (vs.take j)) (j * 5000) wr) (fun _ i _ => vs.length - (intOf i).toNat)
        case atStart => exact ⟨0, 0, Nat.zero_le _, rfl, rfl, rfl, Nat.le_refl _, hI0⟩
        case round =>
          clear hI0
          obtain ⟨j, A, hj, rfl, rfl, hA, hA2, hI⟩ := hrel
          have HI := Lib.hid (And.intro hA hI)
          have hBr := hI.below
          clear hA hI
          by_cases hlt : j < vs.length
          ·
            obtain ⟨bu, ou, rfl, hbu, hcu⟩ := HU.out (by omega)
            have d1 := (hBr.cell (p := ⟨bu, ou + j, none⟩) hbu).trans (hcu j hlt)
            obtain ⟨x, hx⟩ : ∃ x, vs[j] = x := ⟨_, rfl⟩
            simp only [List.getD, List.getElem?_eq_getElem hlt, Option.getD_some, hx] at d1
            have hxr := HVR.out x (by rw [← hx]; exact List.getElem_mem hlt)
            obtain ⟨n, rfl⟩ : ∃ n : Nat, x = n := ⟨x.toNat, by omega⟩
            have hbu' : bu < wr.heap.size := by have := hBr.size; omega
            obtain ⟨m, hm⟩ : ∃ m, tmsT n X = m := ⟨_, rfl⟩
            rw [hm] at hxr
            have hm1 : 1 ≤ (m : Int) := by omega
            have hm4 : m ≤ 4000 := by have := tms_le n X; have := (isB_size HX.out).1; omega
            have hjm : j ≤ 4000 := by omega
            have hn1 : n < 100000 := by omega
            have bt := Box.keep hBr HBT.out.1
            have q0 := bt.cell 0
            have q1 := bt.cell 1
            have q2 := bt.cell 2
            have q3 := bt.cell 3
            have lt := bt.lt
            simp only [List.getElem?_toArray, List.getElem?_cons_succ, List.getElem?_cons_zero] at q0 q1 q2 q3
            have HXM := Lib.hid (And.intro hx hm)
            have hcT := Times_ok HX.out n m hm _ wr (HBT.out.2.1.up hBr hBr.size)
            have HCT := Lib.hid hcT
            have HBR := Lib.hid hBr
            clear hcT hx hm bt hcu hxr hBr
            go_wp2_with fail
            refine HCT.out.mono ?_
            rintro e WA ⟨rfl, B⟩
            have hIA := HI.out.2.up B
            have hBA := HBR.out.trans (B.mono HBR.out.size)
            clear B q0 q1 q2 q3 d1
            by_cases hnl : n < l.length
            ·
              obtain ⟨bs, os, rfl, hbs⟩ := HBT.out.2.2.1.addr (by omega)
              obtain ⟨tk, tn, ts, tl, ta, tc, te, e0, e1, e2, e3, hte⟩ := HBT.out.2.2.1.node' hbs hBA n hnl
              have hbs1 : bs < WA.heap.size := by have := hBA.size; omega
              have hgd : l.getD n default = l[n] := by simp [List.getD, hnl]
              obtain ⟨r, hr⟩ : ∃ r, (l[n]).free = r := ⟨_, rfl⟩
              have HFC := Lib.hid (free_any l[n] _ _ (hte.up hBA hBA.size) r hr)
              have HR := Lib.hid (And.intro hr hgd)
              have HIA := Lib.hid (And.intro hIA hBA)
              clear te hr hgd hte hIA hBA
              go_wp2_with fail
              refine HFC.out.mono ?_
              rintro e WB ⟨rfl, B⟩
              have hIB := HIA.out.1.up B
              have hBB := HIA.out.2.trans (B.mono HIA.out.2.size)
              clear B HFC e0 e1 e2 e3
              cases r with
              | true =>
                have hw : wantV l (n : Int) = [(n : Int)] := by rw [wantV, if_neg (fun h => by rw [Int.toNat_natCast, HR.out.2, HR.out.1] at h; cases h.2)]
                obtain ⟨WP, hrun, hIP, _⟩ := hIB.put (by omega) (x := (n : Int)) (by unfold okI; omega)
                have c5 := hIB.box.1
                have l5 := hIB.box.2
                have HP := Lib.hid (GInv.next (ys := [(n : Int)]) hIP hlt HXM.out.1 hw (by omega))
                clear hIP hw hIB hBB
                go_wp2_with fail
                go_roundw
                case rel => exact ⟨j + 1, A + m, hlt, by go_num, by go_num, by rw [List.take_succ_eq_append_getElem hlt, List.map_append, List.sum_append, ← HI.out.1, HXM.out.1]; simp [HXM.out.2], by omega, HP.out⟩
                case measure => simp [intOf]; omega
              | false =>
                have hw : wantV l (n : Int) = vars1 l[n] := by rw [wantV, if_pos ⟨by omega, by rw [Int.toNat_natCast, HR.out.2, HR.out.1]⟩, Int.toNat_natCast, HR.out.2]
                have HW := Lib.hid hw
                clear hw
                have htl : isB l[n] = true := by rcases subOk_mem HS.out (List.getElem_mem hnl) with h | h <;> first | exact h | (rw [HR.out.1] at h; cases h)
                have HTL := Lib.hid htl
                clear htl
                have HIB := Lib.hid (And.intro hIB hBB)
                have hcv := Vars_elt HTL.out bs (os + n * 4) WB ((HBT.out.2.2.1.one hbs n hnl).up hBB hBB.size)
                have HCV := Lib.hid hcv
                clear hcv hIB hBB
                go_wp2_with fail
                refine HCV.out.mono ?_
                rintro e WC ⟨ao, co, rfl, hown, B⟩
                have hIC := HIB.out.1.up B
                have hBC := HIB.out.2.trans (B.mono HIB.out.2.size)
                have hol := vars1_length HTL.out
                have HOR : Hid (∀ y, y ∈ vars1 l[n] → 0 ≤ y ∧ y < 100000) := fun y hy => occ_range l[n] y (isB_is HTL.out).1 ((vars1_mem (isB_is HTL.out).1).1 hy)
                generalize vars1 l[n] = ow at *
                obtain ⟨ao', co', hoe, hom, hoc⟩ := hown
                cases hoe
                have HOC := Lib.hid hoc
                have hol' : ow.length ≤ 9223372036854775807 := by omega
                have hIC0 : GInv W6 (addL (wantL l (vs.take j)) (ow.take 0)) (j * 5000 + 0) WC := hIC
                have HNC : Hid (∀ b o v, WC.cell? ⟨b, o, none⟩ = some v → b ≠ W6.heap.size) := fun b o v h => hIC.not_cell h
                clear hoc hom hIC B HCV HIB
                obtain ⟨wo, rfl⟩ : ∃ wo : World, wo = wr := ⟨_, rfl⟩
                go_wp2_with fail
                go_loopw [115] (fun i wr => ∃ q : Nat, q ≤ ow.length ∧ i = .int .i64 q ∧ GInv W6 (addL (wantL l (vs.take j)) (ow.take q)) (j * 5000 + q) wr ∧ WC.grownBy wr (some W6.heap.size)) (fun i _ => ow.length - (intOf i).toNat)
                case atStart => exact ⟨0, Nat.zero_le _, rfl, hIC0, grown_refl _ _⟩
                case round =>
                  clear hIC0
                  obtain ⟨q, hq, rfl, hI, hgr⟩ := hrel
                  have HI2 := Lib.hid (And.intro hI hgr)
                  clear hI hgr
                  by_cases hqt : q < ow.length
                  · obtain ⟨bo, oo, rfl, hbo, hco⟩ := HOC.out (by omega)
                    have hcq := hco q hqt
                    have hgs := HI2.out.2.size
                    have hI0' := HI2.out.1
                    have hbo' : bo < wr.heap.size := by omega
                    have hne : bo ≠ W6.heap.size := fun e => HNC.out bo (oo + q) _ hcq e
                    have d0 : wr.cell? ⟨bo, oo + q, none⟩ = some (.int .i64 (ow.getD q 0)) := (World.cell?_of_block (a := ⟨bo, oo + q, none⟩) (HI2.out.2.block bo hbo (by simpa using hne))).trans hcq
                    obtain ⟨y, hy⟩ : ∃ y, ow[q] = y := ⟨_, rfl⟩
                    simp only [List.getD, List.getElem?_eq_getElem hqt, Option.getD_some, hy] at d0
                    have hyr := HOR.out y (by rw [← hy]; exact List.getElem_mem hqt)
                    obtain ⟨WP, hrun, hIP, hgP⟩ := HI2.out.1.put (by omega) (x := y) (by unfold okI; omega)
                    rw [← hy, ← addL_take hqt] at hIP
                    have HP := Lib.hid (And.intro hIP (grown_trans HI2.out.2 hgP))
                    have c5 := HI2.out.1.box.1
                    have l5 := HI2.out.1.box.2
                    clear hIP hgP hy hne hcq hco hI0'
                    go_wp2_with fail
                    go_roundw
                    case rel => exact ⟨q + 1, hqt, by go_num, HP.out.1, HP.out.2⟩
                    case measure => simp [intOf]; omega
                  · have hI := HI2.out.1
                    have et : ow.take q = ow := List.take_of_length_le (by omega)
                    rw [et] at hI
                    have HP := Lib.hid (GInv.next hI hlt HXM.out.1 HW.out (by omega))
                    clear hI et
                    go_wp2_with fail
                    go_roundw
                    case rel => exact ⟨j + 1, A + m, hlt, by go_num, by go_num, by rw [List.take_succ_eq_append_getElem hlt, List.map_append, List.sum_append, ← HI.out.1, HXM.out.1]; simp [HXM.out.2], by omega, HP.out⟩
                    case measure => simp [intOf]; omega
            ·
              have hw : wantV l (n : Int) = [(n : Int)] := by rw [wantV, if_neg (fun h => hnl (by have := h.1; omega))]
              obtain ⟨WP, hrun, hIP, _⟩ := hIA.put (by omega) (x := (n : Int)) (by unfold okI; omega)
              have c5 := hIA.box.1
              have l5 := hIA.box.2
              have HP := Lib.hid (GInv.next (ys := [(n : Int)]) hIP hlt HXM.out.1 hw (by omega))
              clear hIP hw hIA hBA
              go_wp2_with fail
              go_roundw
              case rel => exact ⟨j + 1, A + m, hlt, by go_num, by go_num, by rw [List.take_succ_eq_append_getElem hlt, List.map_append, List.sum_append, ← HI.out.1, HXM.out.1]; simp [HXM.out.2], by omega, HP.out⟩
              case measure => simp [intOf]; omega
          ·
            have hI := HI.out.2
            have hA := HI.out.1
            rw [List.take_of_length_le (by omega)] at hI hA
            rw [HVS.out] at hA
            have HI3 := Lib.hid (And.intro hI hA)
            have bbt := Box.keep hBr HBT.out.1
            have ht := HBT.out.2.1.up hBr hBr.size
            have hl := HBT.out.2.2.1.up hBr hBr.size
            have hb := HBT.out.2.2.2.trans (hBr.mono HBT.out.2.2.2.size)
            have hlv := leaves_any X _ wr ht (by have := (isB_size HX.out).1; omega)
            rw [← hA] at hlv
            have HLV := Lib.hid hlv
            clear hI hA hBr HI HBT HU hlv
            have qt0 := bbt.cell 0
            have qt1 := bbt.cell 1
            have qt2 := bbt.cell 2
            have qt3 := bbt.cell 3
            have lt := bbt.lt
            simp only [List.getElem?_toArray, List.getElem?_cons_succ, List.getElem?_cons_zero] at qt0 qt1 qt2 qt3
            go_wp2_with fail
            clear qt0 qt1 qt2 qt3 lt
            refine HLV.out.mono ?_
            rintro e WA ⟨rfl, B⟩
            have hIA := Lib.hid (HI3.out.1.up B)
            clear HI3 HLV
            replace bbt := Box.keep B bbt
            replace ht := ht.up B B.size
            replace hl := hl.up B B.size
            replace hb := hb.trans (B.mono hb.size)
            clear B
            rcases subst_ok HX.out HS.out with ⟨he1, hx1, hv1⟩ | ⟨he1, hv1⟩
            rotate_left
            · have hg0 : g = false := by
                cases g with
                | false => rfl
                | true =>
                  have h := grd_sub (l := l) HX.out HG.out
                  rw [substE, HX.out, HS.out, h, fits_isB HX.out] at he1
                  cases he1
              subst hg0
              have HE1 := Lib.hid (And.intro he1 hv1)
              clear he1 hv1 hgz
              have qt0 := bbt.cell 0
              have qt1 := bbt.cell 1
              have qt2 := bbt.cell 2
              have qt3 := bbt.cell 3
              have lt := bbt.lt
              simp only [List.getElem?_toArray, List.getElem?_cons_succ, List.getElem?_cons_zero] at qt0 qt1 qt2 qt3
              go_wp2_with fail
              clear qt0 qt1 qt2 qt3 lt
              refine (Subst_ok _ al cl _ ht HX.out HS.out h4 h5 hl zeroTr 2 HE1.out.2 HE1.out.1).mono ?_
              rintro e W7 ⟨kx, nx, sx, ax, mx, cx, rfl, hx, B⟩
              replace bbt := Box.keep B bbt
              replace ht := ht.up B B.size
              replace hl := hl.up B B.size
              replace hIA := Lib.hid (hIA.out.up B)
              replace hb := hb.trans (B.mono hb.size)
              clear B
              go_wp2_with fail
              go_ret
              exact ⟨rfl, hb.trans (below_a1 hb.size _)⟩
            · have HE1 := Lib.hid (And.intro he1 (And.intro hx1 hv1))
              clear he1 hx1 hv1
              have qt0 := bbt.cell 0
              have qt1 := bbt.cell 1
              have qt2 := bbt.cell 2
              have qt3 := bbt.cell 3
              have lt := bbt.lt
              simp only [List.getElem?_toArray, List.getElem?_cons_succ, List.getElem?_cons_zero] at qt0 qt1 qt2 qt3
              go_wp2_with fail
              clear qt0 qt1 qt2 qt3 lt
              refine (Subst_ok _ al cl _ ht HX.out HS.out h4 h5 hl (subT l X) 0 HE1.out.2.2 HE1.out.1).mono ?_
              rintro e W7 ⟨kx, nx, sx, ax, mx, cx, rfl, hx, B⟩
              replace bbt := Box.keep B bbt
              replace ht := ht.up B B.size
              replace hl := hl.up B B.size
              replace hIA := Lib.hid (hIA.out.up B)
              replace hb := hb.trans (B.mono hb.size)
              clear B
              clear hgz
              have qt0 := bbt.cell 0
              have qt1 := bbt.cell 1
              have qt2 := bbt.cell 2
              have qt3 := bbt.cell 3
              have lt := bbt.lt
              simp only [List.getElem?_toArray, List.getElem?_cons_succ, List.getElem?_cons_zero] at qt0 qt1 qt2 qt3
              go_wp2_with fail
              clear qt0 qt1 qt2 qt3 lt
              have HV8 : Hid ((W7.alloc (.cells #[.int .i64 kx, .int .i64 nx, .string sx, .slice ax mx cx] 25)).heap.size = W7.heap.size + 1) := by simp [Hid]
              have bbx : Box (W7.alloc (.cells #[.int .i64 kx, .int .i64 nx, .string sx, .slice ax mx cx] 25)) W7.heap.size #[.int .i64 kx, .int .i64 nx, .string sx, .slice ax mx cx] 25 := Box.at rfl
              have B := below_a1 (Nat.le_refl W7.heap.size) (.cells #[.int .i64 kx, .int .i64 nx, .string sx, .slice ax mx cx] 25)
              replace bbt := Box.keep B bbt
              replace ht := ht.up B B.size
              replace hl := hl.up B B.size
              replace hx := hx.up B B.size
              replace hIA := Lib.hid (hIA.out.up B)
              replace hb := hb.trans (B.mono hb.size)
              clear B
              generalize (W7.alloc (.cells #[.int .i64 kx, .int .i64 nx, .string sx, .slice ax mx cx] 25)) = V8 at *
              have qx0 := bbx.cell 0
              have qx1 := bbx.cell 1
              have qx2 := bbx.cell 2
              have qx3 := bbx.cell 3
              have lx := bbx.lt
              simp only [List.getElem?_toArray, List.getElem?_cons_succ, List.getElem?_cons_zero] at qx0 qx1 qx2 qx3
              go_wp2_with fail
              clear qx0 qx1 qx2 qx3 lx
              have hvo := Vars_one HE1.out.2.1 _ _ _ _ _ hx
              rw [HV8.out] at hvo
              refine hvo.mono ?_
              clear hvo
              rintro e W9 ⟨aw, cw, rfl, hw, B⟩
              rw [← HV8.out] at B
              replace bbt := Box.keep B bbt
              replace bbx := Box.keep B bbx
              replace ht := ht.up B B.size
              replace hl := hl.up B B.size
              replace hx := hx.up B B.size
              replace hIA := Lib.hid (hIA.out.up B)
              replace hb := hb.trans (B.mono hb.size)
              clear B
              have HRW := Lib.hid hw
              clear hw
              obtain ⟨hwl, hwm⟩ := HIV.out HE1.out.2.1
              have HWM := Lib.hid hwm
              have hlen : ∀ ty, (Builtin.len_ #[81] ty #[.map (some W6.heap.size)]).run Tryd.prog W9 = .ok (.int .i64 ((vars1 (subT l X)).length : Int)) W9 := fun ty => by rw [hwl]; exact hIA.out.len ty
              clear hwl hwm
              have c5 := hIA.out.box.1
              have l5 := hIA.out.box.2
              cases g with
              | false =>
                have qt0 := bbt.cell 0
                have qt1 := bbt.cell 1
                have qt2 := bbt.cell 2
                have qt3 := bbt.cell 3
                have qx0 := bbx.cell 0
                have qx1 := bbx.cell 1
                have qx2 := bbx.cell 2
                have qx3 := bbx.cell 3
                have lt := bbt.lt
                have lx := bbx.lt
                simp only [List.getElem?_toArray, List.getElem?_cons_succ, List.getElem?_cons_zero] at qt0 qt1 qt2 qt3 qx0 qx1 qx2 qx3
                go_wp2_with fail
                clear qt0 qt1 qt2 qt3 qx0 qx1 qx2 qx3 lt lx
                clear hlen c5 l5
                have hcf := containsFuncN_any 73 #[.pointer (some ⟨W6.heap.size + 1, 0, none⟩)] enters_notWant (fun x => !decide (x ∈ wantL l vs)) (vars1 (subT l X)) aw cw W9 (by have := vars1_length HE1.out.2.1; unfold maxLen; omega) HRW.out (fun x hx W hW => hIA.out.want (by have := occ_range _ x (isB_is HE1.out.2.1).1 ((vars1_mem (isB_is HE1.out.2.1).1).1 hx); unfold okI; omega) W hW)
                rw [show (vars1 (subT l X)).any (fun x => !decide (x ∈ wantL l vs)) = false by rw [List.any_eq_false]; intro x hx; simp [HWM.out x hx]] at hcf
                have HCF := Lib.hid hcf
                clear hcf
                go_wp2_with fail
                refine HCF.out.mono ?_
                rintro e W10 ⟨rfl, B⟩
                replace hb := hb.trans (B.mono hb.size)
                go_wp2_with fail
                go_ret
                exact ⟨rfl, hb⟩
              | true =>
                rw [grd_sub (l := l) HX.out HG.out] at hx
                have qt0 := bbt.cell 0
                have qt1 := bbt.cell 1
                have qt2 := bbt.cell 2
                have qt3 := bbt.cell 3
                have qx0 := bbx.cell 0
                have qx1 := bbx.cell 1
                have qx2 := bbx.cell 2
                have qx3 := bbx.cell 3
                have lt := bbt.lt
                have lx := bbx.lt
                simp only [List.getElem?_toArray, List.getElem?_cons_succ, List.getElem?_cons_zero] at qt0 qt1 qt2 qt3 qx0 qx1 qx2 qx3
                go_wp2_with fail
                clear qt0 qt1 qt2 qt3 qx0 qx1 qx2 qx3 lt lx
                refine (sane_same X _ _ _ hx ht).mono ?_
                rintro e W10 ⟨rfl, B⟩
                replace bbt := Box.keep B bbt
                replace bbx := Box.keep B bbx
                replace ht := ht.up B B.size
                replace hl := hl.up B B.size
                replace hx := hx.up B B.size
                replace hIA := Lib.hid (hIA.out.up B)
                replace HRW := Lib.hid (HRW.out.rise B)
                replace hb := hb.trans (B.mono hb.size)
                clear B
                replace hlen : ∀ ty, (Builtin.len_ #[81] ty #[.map (some W6.heap.size)]).run Tryd.prog W10 = .ok (.int .i64 ((vars1 (subT l X)).length : Int)) W10 := fun ty => by rw [(HIV.out HE1.out.2.1).1]; exact hIA.out.len ty
                replace c5 := hIA.out.box.1
                replace l5 := hIA.out.box.2
                go_wp2_with fail
                clear hlen c5 l5
                have hcf := containsFuncN_any 73 #[.pointer (some ⟨W6.heap.size + 1, 0, none⟩)] enters_notWant (fun x => !decide (x ∈ wantL l vs)) (vars1 (subT l X)) aw cw W10 (by have := vars1_length HE1.out.2.1; unfold maxLen; omega) HRW.out (fun x hx W hW => hIA.out.want (by have := occ_range _ x (isB_is HE1.out.2.1).1 ((vars1_mem (isB_is HE1.out.2.1).1).1 hx); unfold okI; omega) W hW)
                rw [show (vars1 (subT l X)).any (fun x => !decide (x ∈ wantL l vs)) = false by rw [List.any_eq_false]; intro x hx; simp [HWM.out x hx]] at hcf
                have HCF := Lib.hid hcf
                clear hcf
                go_wp2_with fail
                refine HCF.out.mono ?_
                rintro e W11 ⟨rfl, B⟩
                replace hb := hb.trans (B.mono hb.size)
                go_wp2_with fail
                go_ret
                exact ⟨rfl, hb⟩
end Go.Proofs.YtckoecmdaefoiaaDoor
