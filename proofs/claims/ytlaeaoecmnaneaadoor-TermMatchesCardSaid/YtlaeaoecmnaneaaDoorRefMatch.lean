/- What is put in the place of variables: the second reading of match. -/
import Derived.Test.YtlaeaoecmnaneaaDoorRowF
import Derived.Test.YtlaeaoecmnaneaaDoorRefNum
namespace Go.Proofs.YtlaeaoecmnaneaaDoor
open Go.RowKit Go

attribute [local go_sem] Oper.semAt_some uponP Yld.says monoUpon

theorem padT_next {j L : Nat} {l : List Tr} (h : (padT j l).length = L) : padT (L + 1) l = padT j l ++ [zeroTr] := by
  rw [padT_len] at h
  rw [padT_succ (by omega)]
  congr 1
  unfold padT
  congr 2
  omega
theorem padT_exit {j N : Nat} {l : List Tr} (h1 : j ≤ N) (h2 : N ≤ (padT j l).length) : padT j l = padT N l := by
  rw [padT_len] at h2
  unfold padT
  congr 2
  omega
def MgPost (n₀ : Nat) (p t : Tr) (fs : List Tr) (v : Value) (w : World) (e : Ending) (w' : World) : Prop := ∃ v', e = .returned (.tuple #[v', .bool (mgT p t fs).2]) ∧ RowF n₀ w' v' (mgT p t fs).1 ∧ w.grownBy w' v.ownBlock ∧ (∀ b, v'.ownBlock = some b → v.ownBlock = some b ∨ w.heap.size ≤ b) ∧ w.heap.size < w'.heap.size
/-- While match runs: the two nodes' boxes, and what was found so far. -/
structure MgAt (n₀ : Nat) (o : Value) (w : World) (pc tc : Array Value) (ov : Value) (fs : List Tr) (wr : World) : Prop where
  bp : Box wr w.heap.size pc 25
  bt : Box wr (w.heap.size + 1) tc 25
  row : RowF n₀ wr ov fs
  grown : w.grownBy wr o.ownBlock
  own : ∀ b, ov.ownBlock = some b → o.ownBlock = some b ∨ w.heap.size + 2 ≤ b
  old : ∀ b, o.ownBlock = some b → n₀ ≤ b ∧ b < w.heap.size
  hn : n₀ ≤ w.heap.size
theorem MgAt.below {n₀ : Nat} {o : Value} {w : World} {pc tc : Array Value} {ov : Value} {fs : List Tr} {wr : World} (h : MgAt n₀ o w pc tc ov fs wr) : Below n₀ w wr :=
  grown_below' h.grown h.hn (fun g e => (h.old g e).1)
theorem MgAt.ne {n₀ : Nat} {o : Value} {w : World} {pc tc : Array Value} {ov : Value} {fs : List Tr} {wr : World} (h : MgAt n₀ o w pc tc ov fs wr) : (∀ b, b < n₀ → some b ≠ ov.ownBlock) ∧ some w.heap.size ≠ ov.ownBlock ∧ some (w.heap.size + 1) ≠ ov.ownBlock := by
  have hn := h.hn
  refine ⟨fun b hb e => ?_, fun e => ?_, fun e => ?_⟩
  · have := (h.row.lt b e.symm).1; omega
  · rcases h.own _ e.symm with h2 | h2
    · have := (h.old _ h2).2; omega
    · omega
  · rcases h.own _ e.symm with h2 | h2
    · have := (h.old _ h2).2; omega
    · omega
theorem MgAt.step {n₀ : Nat} {o : Value} {w : World} {pc tc : Array Value} {ov : Value} {fs : List Tr} {wr : World} (h : MgAt n₀ o w pc tc ov fs wr) {v' : Value} {fs' : List Tr} {W : World} (hr : RowF n₀ W v' fs') (hg : wr.grownBy W ov.ownBlock) (ho : ∀ b, v'.ownBlock = some b → ov.ownBlock = some b ∨ wr.heap.size ≤ b) : MgAt n₀ o w pc tc v' fs' W := by
  have hl := h.bt.lt
  refine ⟨(hg.block _ h.bp.lt h.ne.2.1).trans h.bp, (hg.block _ hl h.ne.2.2).trans h.bt, hr, grown_row h.grown hg (fun g e => ?_), fun b hb => ?_, h.old, h.hn⟩
  · rcases h.own g e with h2 | h2
    · exact .inl h2
    · exact .inr (by omega)
  · rcases ho b hb with h2 | h2
    · exact h.own b h2
    · exact .inr (by omega)
theorem MgAt.keep {n₀ : Nat} {o : Value} {w : World} {pc tc : Array Value} {ov : Value} {fs : List Tr} {wr W : World} (h : MgAt n₀ o w pc tc ov fs wr) (B : Below wr.heap.size wr W) : MgAt n₀ o w pc tc ov fs W :=
  h.step (h.row.keep (Nat.le_trans h.hn h.grown.size) B) (grown_b _ B) (fun _ e => .inl e)
theorem MgAt.start {n₀ : Nat} {o : Value} {w : World} {fs : List Tr} (pc tc : Array Value) (hr : RowF n₀ w o fs) (hn : n₀ ≤ w.heap.size) : MgAt n₀ o w pc tc o fs ((w.alloc (.cells pc 25)).alloc (.cells tc 25)) :=
  ⟨(Box.at rfl).alloc _, Box.at (by simp), hr.keep hn (below_a2 (Nat.le_refl _) _ _), grown_b _ (below_a2 (Nat.le_refl _) _ _), fun _ e => .inl e, fun b e => hr.lt b e, hn⟩
theorem MgAt.post {n₀ : Nat} {o : Value} {w : World} {pc tc : Array Value} {ov : Value} {fs fs' : List Tr} {wr : World} {p t : Tr} {b : Bool} (h : MgAt n₀ o w pc tc ov fs' wr) (he : mgT p t fs = (fs', b)) : MgPost n₀ p t fs o w (.returned (.tuple #[ov, .bool b])) wr :=
  ⟨ov, by rw [he], by rw [he]; exact h.row, h.grown, fun b e => (h.own b e).imp id (fun h => by omega), by have := h.bt.lt; omega⟩
theorem RowF.addr {n₀ : Nat} {W : World} {ga : Option Addr} {L gc : Nat} {fs : List Tr} (h : RowF n₀ W (.slice ga L gc) fs) (hl : 0 < fs.length) : ∃ g, ga = some ⟨g, 0, none⟩ := by
  obtain ⟨xs, h1, _⟩ := h
  obtain ⟨m, hm⟩ : ∃ m, fs.length = m + 1 := ⟨fs.length - 1, by omega⟩
  rw [hm] at h1
  obtain ⟨g, cap, e⟩ := ownsRow_succ h1
  simp only [Value.slice.injEq] at e
  exact ⟨g, e.1⟩
def lenF : Value → Nat
  | .slice _ n _ => n
  | _ => 0
theorem row_lenF {W : World} {base : Nat} {e : TypeId} {size k : Nat} {v : Value} {xs : List Value} (h : W.ownsRow base e size v k xs) : lenF v = k := by
  rcases h.2 with ⟨rfl, rfl⟩ | ⟨g, cap, cur, rfl, _⟩ <;> rfl
/-- What the call yields within the region. -/
def MgV (n₀ lo : Nat) (o : Value) (fs : List Tr) (v' : Value) (W : World) : Prop := n₀ ≤ W.heap.size ∧ lo < W.heap.size ∧ RowF n₀ W v' fs ∧ ∀ b, v'.ownBlock = some b → o.ownBlock = some b ∨ lo ≤ b
def MgR (n₀ lo : Nat) (o : Value) (R : List Tr × Bool) (u : Value) (W : World) : Prop := ∃ v', u = .tuple #[v', .bool R.2] ∧ MgV n₀ lo o R.1 v' W
/-- The phases: the call makes the heap greater, so that the one behind it is told from those ahead. -/
def MC (wr : World) (row : Option Nat) : Nat → World → Prop
  | 0, w => w.heap.size = wr.heap.size ∧ wr.grownBy w row ∧ Below wr.heap.size wr w
  | 1, w => w.heap.size = wr.heap.size ∧ wr.grownBy w row ∧ Below wr.heap.size wr w
  | _, w => wr.heap.size < w.heap.size ∧ wr.grownBy w row
def MR (lo : Nat) (row : Option Nat) : Nat → World → World → Prop
  | 0, w, w' => w.heap.size = lo ∧ w.grownBy w' row
  | 1, w, w' => w.heap.size = lo ∧ w.grownBy w' row
  | _, w, w' => Ext w w'
theorem MC.start (w : World) (row : Option Nat) : MC w row 0 { w with drawn := w.drawn + 1 } := ⟨rfl, ⟨rfl, rfl, rfl, Nat.le_refl _, fun _ _ _ => rfl⟩, ⟨rfl, rfl, rfl, Nat.le_refl _, fun _ _ => rfl⟩⟩
theorem MC.grown {wr w : World} {row : Option Nat} {b : Nat} (h : MC wr row b w) : wr.grownBy w row := by
  match b with
  | 0 => exact h.2.1
  | 1 => exact h.2.1
  | _ + 2 => exact h.2
theorem MR.refl {wr w : World} {row : Option Nat} {b : Nat} (h : MC wr row b w) : MR wr.heap.size row b w w := by
  match b with
  | 0 => exact ⟨h.1, grown_refl _ w⟩
  | 1 => exact ⟨h.1, grown_refl _ w⟩
  | _ + 2 => exact Ext.refl w
theorem MgV.stable (n₀ lo : Nat) (o : Value) (fs : List Tr) (row : Option Nat) (b : Nat) : (Yld.any (MgV n₀ lo o fs)).stableP (MR lo row b) := fun v' w w' he ⟨h1, h0, h2, h3⟩ => by
  match b with
  | 0 => exact absurd he.1 (by omega)
  | 1 => exact absurd he.1 (by omega)
  | _ + 2 =>
    have he' : Below w.heap.size w w' := he
    exact ⟨Nat.le_trans h1 he'.size, Nat.lt_of_lt_of_le h0 he'.size, h2.keep h1 he', h3⟩
theorem MgR.stable (n₀ lo : Nat) (o : Value) (R : List Tr × Bool) (row : Option Nat) (b : Nat) : (Yld.any (MgR n₀ lo o R)).stableP (MR lo row b) := fun _ w w' he ⟨v', h, h1⟩ => ⟨v', h, MgV.stable n₀ lo o R.1 row b v' w w' he h1⟩
theorem mg_hys (v0 v1 v2 v3 v4 v5 v6 v7 v8 v9 v10 v14 : Value) (n₀ lo : Nat) (o : Value) (R : List Tr × Bool) (row : Option Nat) (i b : Nat) :
    (([.det v0, .det v1, .det v2, .det v3, .det v4, .det v5, .det v6, .det v7, .det v8, .det v9, .det v10, .any (MgR n₀ lo o R), .any (MgR n₀ lo o R), .any (MgV n₀ lo o R.1), .det v14, .any (MgV n₀ lo o R.1)] : List Yld).getD i (.any fun _ _ => True)).stableP (MR lo row b) := by
  match i with
  | 0 => trivial
  | 1 => trivial
  | 2 => trivial
  | 3 => trivial
  | 4 => trivial
  | 5 => trivial
  | 6 => trivial
  | 7 => trivial
  | 8 => trivial
  | 9 => trivial
  | 10 => trivial
  | 11 => exact MgR.stable n₀ lo o R row b
  | 12 => exact MgR.stable n₀ lo o R row b
  | 13 => exact MgV.stable n₀ lo o R.1 row b
  | 14 => trivial
  | 15 => exact MgV.stable n₀ lo o R.1 row b
  | _ + 16 => exact fun _ _ _ _ _ => trivial

set_option maxRecDepth 100000 in
set_option maxHeartbeats 8000000 in
theorem refMatch1_any (n₀ : Nat) (p : Tr) : ∀ (t : Tr) (fs : List Tr) (vp vt v : Value) (w : World), IsT n₀ w p vp → IsT n₀ w t vt → n₀ ≤ w.heap.size → RowF n₀ w v fs → varsIn 100000 p →
    Calls Tryd.prog 108 #[vp, vt, v] w (MgPost n₀ p t fs v w) := by
  induction p using Tr.ind with
  | h k n s l ih =>
    intro t fs vp vt v w hp ht hn hr hv
    cases t with
    | node k' n' s' l' =>
    have HP := Lib.hid hp
    have HT := Lib.hid ht
    obtain ⟨a, c, rfl, h1, h2, h3, hlc, hcm, hl⟩ := hp.open
    obtain ⟨a', c', rfl, h1', h2', h3', hlc', hcm', hl'⟩ := ht.open
    have hlm : l.length ≤ 9223372036854775807 := by unfold maxLen at hcm; omega
    have hlm' : l'.length ≤ 9223372036854775807 := by unfold maxLen at hcm'; omega
    unfold varsIn at hv
    have HI := Lib.hid ih
    clear ih hp ht
    by_cases hk : k = 1
    · subst hk
      obtain ⟨hv0, hv1⟩ := hv.1 rfl
      obtain ⟨q, rfl⟩ := Int.eq_ofNat_of_zero_le hv0
      have hq : q < 100000 := by omega
      clear hv hv0 hv1 HI hl hl'
      have HM : Hid (mgT (.node 1 (q : Int) s l) (.node k' n' s' l') fs = if ((padT (q + 1) fs).getD q default).free then ((padT (q + 1) fs).set q (.node k' n' s' l'), true) else (padT (q + 1) fs, Tr.beq ((padT (q + 1) fs).getD q default) (.node k' n' s' l'))) := by rw [Hid, mgT, if_pos rfl]; rfl
      have HA0 := Lib.hid (MgAt.start #[.int .i64 1, .int .i64 (q : Int), .string s, .slice a l.length c] #[.int .i64 k', .int .i64 n', .string s', .slice a' l'.length c'] hr hn)
      clear hr
      obtain ⟨i0, hi, hz0, hz1, hz2⟩ := info_parts infoTerm
      go_enter Tryd.func108, Tryd.ntmps108
      go_wp2_with fail
      go_loopw [2] (fun sv wr => ∃ (j : Nat) (ov : Value), ov = sv ∧ j ≤ q + 1 ∧ MgAt n₀ v w #[.int .i64 1, .int .i64 (q : Int), .string s, .slice a l.length c] #[.int .i64 k', .int .i64 n', .string s', .slice a' l'.length c'] ov (padT j fs) wr) (fun sv _ => q + 1 - lenF sv)
      case atStart => exact ⟨0, _, rfl, Nat.zero_le _, by rw [padT_self (Nat.zero_le _)]; exact HA0.out⟩
      case round =>
        clear HA0
        obtain ⟨j, ov, rfl, hj, hS⟩ := hrel
        obtain ⟨ga, gc, rfl⟩ := hS.row.form
        have q1 := hS.bp.cell 1
        have l0 := hS.bp.lt
        have l1 := hS.bt.lt
        simp only [List.getElem?_toArray, List.getElem?_cons_succ, List.getElem?_cons_zero] at q1
        obtain ⟨L, hL⟩ : ∃ L, (padT j fs).length = L := ⟨_, rfl⟩
        rw [hL] at hS
        rw [hL]
        have hrow := hS.row
        have HA := Lib.hid hS
        clear hS
        by_cases hlt : L ≤ q
        · obtain ⟨xs, hown, hfx⟩ := hrow
          rw [hL] at hown
          have HX := Lib.hid (And.intro hfx (And.intro hown.1 hL))
          have hs0 := HA.out.grown.size
          clear hfx hL
          go_wp2_with (at_builtin; refine wpList_append_where rfl _ _ 22 rfl n₀ 25 i0 _ 4 56 Tryd.underlying22 hi hz0 hz1 hz2 rfl (by decide) _ _ _ rfl (World.ownsRow.alloc hown _) ⟨wr.heap.size, 0, none⟩ 1 1 [.int .i64 0, .int .i64 0, .string ⟨#[]⟩, .slice none 0 0] rfl rfl (cells_of_box (Box.at rfl)) (one_cells _ _ _ _ _ _) (by unfold maxLen; omega) (by omega) (by simp; omega) ?_)
          intro v2 w3 hown3 hgrow hwh
          have hst : MgAt n₀ v w #[.int .i64 1, .int .i64 (q : Int), .string s, .slice a l.length c] #[.int .i64 k', .int .i64 n', .string s', .slice a' l'.length c'] v2 (padT (L + 1) fs) w3 := by
            have hga := World.grownBy_alloc wr (.cells #[.int .i64 0, .int .i64 0, .string ⟨#[]⟩, .slice none 0 0] 25) (Value.slice ga L gc).ownBlock
            have hg2 := grown_step hga hgrow
            refine HA.out.step ⟨xs ++ [.int .i64 0, .int .i64 0, .string ⟨#[]⟩, .slice none 0 0], ?_, ?_⟩ hg2 (fun b hb => (hwh b hb).imp id (fun h => by have := World.size_alloc wr (.cells #[.int .i64 0, .int .i64 0, .string ⟨#[]⟩, .slice none 0 0] 25); omega))
            · rw [padT_next HX.out.2.2, List.length_append, HX.out.2.2]; exact hown3
            · rw [padT_next HX.out.2.2]; exact (FndX.snoc (by rw [HX.out.2.1, HX.out.2.2]) HX.out.1).keep (grown_below' hg2 (by omega) (fun g e => (HA.out.row.lt g e).1))
          have hlv := row_lenF hown3
          have HS2 := Lib.hid hst
          clear hst hown3 hgrow hwh hown q1 l0 l1
          go_wp2_with fail
          go_roundw
          case rel => exact ⟨L + 1, _, rfl, by omega, HS2.out⟩
          case measure => simp only [lenF] at hlv ⊢; omega
        · have hpe := padT_exit (N := q + 1) (l := fs) hj (by omega)
          have HA2 := HA.out
          rw [hpe] at HA2 hL hrow
          clear HA hpe hj
          generalize padT (q + 1) fs = G at *
          have hqG : q < G.length := by omega
          have hqL : q < L := by omega
          obtain ⟨g, rfl⟩ := hrow.addr (by omega)
          obtain ⟨fk, fn, fss, fl, fa, fc, fe, c0, c1, c2, c3, hft, hflm⟩ := hrow.at hL.symm hqG
          have f0 := hrow.frozen hL.symm (q * 4)
          have f1 := hrow.frozen hL.symm (q * 4 + 1)
          have f2 := hrow.frozen hL.symm (q * 4 + 2)
          have f3 := hrow.frozen hL.symm (q * 4 + 3)
          have hgl := (hrow.lt g rfl).2
          have hgd : G.getD q default = G[q] := by simp [List.getElem?_eq_getElem hqG]
          rw [hgd] at HM
          have hn' := Nat.le_trans hn HA2.grown.size
          obtain ⟨bf, hbf⟩ : ∃ b, (G[q]).free = b := ⟨_, rfl⟩
          rw [hbf] at HM
          have hfree := free_any G[q] _ wr (hft.mono hn') bf hbf
          have HFR := Lib.hid hfree
          have HA := Lib.hid HA2
          have HFT := Lib.hid (And.intro hft (And.intro fe (And.intro hL hrow)))
          clear HA2 hft fe hL hrow hfree hbf hgd
          go_wp2_with fail
          refine HFR.out.mono ?_
          rintro e W1 ⟨rfl, B⟩
          have HA1 := Lib.hid (HA.out.keep B)
          have hB := B.size
          have d0 := (B.cell (p := ⟨g, q * 4, none⟩) hgl).trans c0
          have d1 := (B.cell (p := ⟨g, q * 4 + 1, none⟩) hgl).trans c1
          have d2 := (B.cell (p := ⟨g, q * 4 + 2, none⟩) hgl).trans c2
          have d3 := (B.cell (p := ⟨g, q * 4 + 3, none⟩) hgl).trans c3
          have m1 := HA1.out.bp.cell 1
          have t0 := HA1.out.bt.cell 0
          have t1 := HA1.out.bt.cell 1
          have t2 := HA1.out.bt.cell 2
          have t3 := HA1.out.bt.cell 3
          have n0 := HA1.out.bp.lt
          have n1 := HA1.out.bt.lt
          simp only [List.getElem?_toArray, List.getElem?_cons_succ, List.getElem?_cons_zero] at m1 t0 t1 t2 t3
          have hHT := HT.out.below HA1.out.below
          have hfu := HFT.out.1.below (B.mono hn')
          have HTU := Lib.hid (And.intro hHT hfu)
          have hgl1 : g < W1.heap.size := by omega
          have e0 := HA1.out.row.frozen HFT.out.2.2.1.symm (q * 4)
          have e1 := HA1.out.row.frozen HFT.out.2.2.1.symm (q * 4 + 1)
          have e2 := HA1.out.row.frozen HFT.out.2.2.1.symm (q * 4 + 2)
          have e3 := HA1.out.row.frozen HFT.out.2.2.1.symm (q * 4 + 3)
          clear c0 c1 c2 c3 f0 f1 f2 f3 q1 l0 l1 B hHT hfu
          cases bf with
          | true =>
            have hM : Hid (mgT (.node 1 (q : Int) s l) (.node k' n' s' l') fs = (G.set q (.node k' n' s' l'), true)) := by rw [Hid, HM.out, if_pos rfl]
            have hput := RowF.put HA1.out.row HFT.out.2.2.1.symm hqG HTU.out.1
            have HF := Lib.hid (HA1.out.step hput.1 hput.2 (fun _ e => .inl e))
            clear hput
            go_wp2_with fail
            exact bodyPost_ret (v := .tuple #[_, .bool _]) (by simp [results, Tryd.results108, go_sem]) rfl (HF.out.post hM.out)
          | false =>
            have hM : Hid (mgT (.node 1 (q : Int) s l) (.node k' n' s' l') fs = (G, eqT G[q] (.node k' n' s' l'))) := by rw [Hid, HM.out, if_neg (by decide), eqT_beq]
            have hsame : ∀ w', Ext W1 w' → Calls Tryd.prog 25 #[.agg #[.int .i64 fk, .int .i64 fn, .string fss, .slice fa fl.length fc], .agg #[.int .i64 k', .int .i64 n', .string s', .slice a' l'.length c']] w' fun e w2 => e = .returned (.bool (eqT G[q] (.node k' n' s' l'))) ∧ Ext w' w2 := fun w' hC => refSame_any G[q] _ _ _ w' ((HTU.out.2.mono (by omega)).up hC hC.size) ((HTU.out.1.mono (by omega)).up hC hC.size)
            have HSM := Lib.hid hsame
            clear hsame e0 e1 e2 e3
            obtain ⟨bq, hbq⟩ : ∃ b, eqT G[q] (.node k' n' s' l') = b := ⟨_, rfl⟩
            rw [hbq] at hM HSM
            have HBQ := Lib.hid hbq
            clear hbq
            go_wp2_with fail
            apply wp_region_mono [.det (.slice (some ⟨g, 0, none⟩) L gc), .det (.slice (some ⟨g, 0, none⟩) L gc), .det (.pointer (some ⟨w.heap.size, 1, none⟩)), .det (.int .i64 (q : Int)), .det (.pointer (some ⟨g, q * 4, none⟩)), .det (.agg #[.int .i64 fk, .int .i64 fn, .string fss, .slice fa fl.length fc]), .det (.agg #[.int .i64 k', .int .i64 n', .string s', .slice a' l'.length c']), .det (.bool bq), .det (.slice (some ⟨g, 0, none⟩) L gc), .det (.bool bq)] (by kernel_rfl) (by kernel_rfl)
            rotate_left
            · iterate 7 (
                refine wpM_step (fun K hK => ?_)
                go_simp
                apply And.intro
                · intro w' hC _
                  have q1 := hC.old.1
                  have hbs := hC.old.2.2
                  clear hC
                  go_simp
                  exact Ext.refl _
                refine nextM_det (hK _ _ ?_)
                clear hK K)
              refine wpM_step (fun K hK => ?_)
              go_simp
              apply And.intro
              · intro w' hC _
                go_simp
                refine ⟨Ext.refl _, (HSM.out w' hC).mono ?_⟩
                rintro e w1 ⟨rfl, hB1⟩
                exact ⟨rfl, hB1⟩
              refine nextM_det (hK _ _ ?_)
              clear hK K
              iterate 2 (
                refine wpM_step (fun K hK => ?_)
                go_simp
                apply And.intro
                · intro w' hC _
                  have q1 := hC.old.1
                  have hbs := hC.old.2.2
                  clear hC
                  go_simp
                  exact Ext.refl _
                refine nextM_det (hK _ _ ?_)
                clear hK K)
              refine wpM_nil ?_
              intro w2 hC2 _
              have HF := Lib.hid (HA1.out.keep hC2)
              clear hC2
              go_wp2_with fail
              exact bodyPost_ret (v := .tuple #[_, .bool _]) (by simp [results, Tryd.results108, go_sem]) rfl (HF.out.post hM.out)
            · intro y hy
              simp only [List.mem_cons, List.not_mem_nil, or_false] at hy
              rcases hy with rfl | rfl | rfl | rfl | rfl | rfl | rfl | rfl | rfl | rfl <;> first | trivial
    · have hk' : (k == 1) = false := by simpa using hk
      by_cases htop : k = k' ∧ n = n' ∧ s = s' ∧ l.length = l'.length
      · obtain ⟨rfl, rfl, rfl, hlen⟩ := htop
        refine (callsIn_wide (n := 9)).1 ?_
        generalize hF : Fence.wide = F
        have hd : F.depth = none := by subst hF; rfl
        have hf : ∀ f, F.fn f := fun f => by subst hF; trivial
        have hro : F.round = none := by subst hF; rfl
        have hM : Hid (mgT (.node k n s l) (.node k n s l') fs = mgL l l' fs) := by rw [Hid, mgT, if_neg hk, if_pos (by simp [topT, topB, hlen])]; rfl
        have hle : (((l.length : Nat) : Int) != (l'.length : Nat)) = false := by simp [hlen]
        have hlen1 : l.length ≤ l'.length := by omega
        have HLEN := Lib.hid hlen
        have HA0 := Lib.hid (MgAt.start #[.int .i64 k, .int .i64 n, .string s, .slice a l.length c] #[.int .i64 k, .int .i64 n, .string s, .slice a' l'.length c'] hr hn)
        have HLL := Lib.hid (And.intro hl (And.intro hl' hv.2))
        clear hr hk hlen hl hl' hv
        refine callsIn_of_wp Tryd.func108 rfl (hf _) ?_ hro
        simp only [Tryd.ntmps108, List.size_toArray, List.length_cons, List.length_nil, Nat.reduceAdd, Nat.reduceSub, Array.replicate_succ, Array.replicate_zero, List.push_toArray, List.append_toArray, List.nil_append, List.cons_append]
        gi_wp2_with fail
        gi_loopw [2, 8, 9] (fun sv okv iv wr => ∃ (j : Nat) (ov : Value), ov = sv ∧ j ≤ l.length ∧ iv = .int .i64 j ∧ okv = .bool (mgL (l.take j) (l'.take j) fs).2 ∧ MgAt n₀ v w #[.int .i64 k, .int .i64 n, .string s, .slice a l.length c] #[.int .i64 k, .int .i64 n, .string s, .slice a' l'.length c'] ov (mgL (l.take j) (l'.take j) fs).1 wr) (fun _ _ iv _ => l.length - (intOf iv).toNat)
        case atStart => exact ⟨0, _, rfl, Nat.zero_le _, rfl, by simp [mgL], by simp only [List.take_zero, mgL]; exact HA0.out⟩
        case round =>
          clear HA0
          obtain ⟨j, ov, rfl, hj, rfl, rfl, hS⟩ := hrel
          obtain ⟨G, hG⟩ : ∃ G, mgL (l.take j) (l'.take j) fs = G := ⟨_, rfl⟩
          rw [hG] at hS
          rw [hG]
          have r3 := hS.bp.cell 3
          have u3 := hS.bt.cell 3
          have l0 := hS.bp.lt
          have l1 := hS.bt.lt
          simp only [List.getElem?_toArray, List.getElem?_cons_succ, List.getElem?_cons_zero] at r3 u3
          have HA := Lib.hid hS
          have hBr := hS.below
          clear hS
          have HG := Lib.hid hG
          clear hG
          by_cases hlt : j < l.length
          · cases hgb : G.2 with
            | false =>
              have hF : Hid (mgT (.node k n s l) (.node k n s l') fs = (G.1, false)) := by rw [Hid, hM.out, mgL_stop l l' fs j hj HLEN.out (by rw [HG.out]; exact hgb), HG.out, ← hgb]
              clear hgb hBr
              gi_wp2_with fail
              exact bodyPost_ret (v := .tuple #[_, .bool _]) (by simp [results, Tryd.results108, go_sem]) rfl (HA.out.post hF.out)
            | true =>
              have hlt' : j < l'.length := by omega
              obtain ⟨b, off, rfl, hbb⟩ := HLL.out.1.addr (by omega)
              obtain ⟨b', off', rfl, hbb'⟩ := HLL.out.2.1.addr (by omega)
              obtain ⟨tk, tn, ts, tl, ta, tc, te, d0, d1, d2, d3, ht⟩ := HLL.out.1.node' hbb hBr j hlt
              obtain ⟨uk, un, us, ul, ua, uc, ue, e0, e1, e2, e3, hu⟩ := HLL.out.2.1.node' hbb' hBr j hlt'
              have hsw := HA.out.grown.size
              have hbw : b < wr.heap.size := by omega
              have hbw' : b' < wr.heap.size := by omega
              obtain ⟨R, hR⟩ : ∃ R, mgT l[j] l'[j] G.1 = R := ⟨_, rfl⟩
              have hcall : ∀ w', Below wr.heap.size wr w' → Calls Tryd.prog 108 #[.agg #[.int .i64 tk, .int .i64 tn, .string ts, .slice ta tl.length tc], .agg #[.int .i64 uk, .int .i64 un, .string us, .slice ua ul.length uc], ov] w' (fun e w2 => ∃ u, e = .returned u ∧ (w'.heap.size = wr.heap.size → MR wr.heap.size ov.ownBlock 1 w' w2) ∧ MC wr ov.ownBlock 2 w2 ∧ MgR n₀ wr.heap.size ov R u w2) := fun w' hb => (HI.out l[j] (List.getElem_mem hlt) l'[j] G.1 _ _ ov w' ((ht.below hBr).below (hb.mono (by omega))) ((hu.below hBr).below (hb.mono (by omega))) (by have := hb.size; omega) (HA.out.row.keep (by omega) hb) (varsInL_mem HLL.out.2.2 (List.getElem_mem hlt))).mono (by
                rintro e w2 ⟨v', rfl, h1, h2, h3, h4⟩
                rw [hR] at h1 ⊢
                have hs1 := hb.size
                have hs2 := h2.size
                exact ⟨_, rfl, fun h => ⟨h, h2⟩, ⟨by omega, grown_step (grown_b _ hb) h2⟩, v', rfl, by omega, by omega, h1, fun g e => (h3 g e).imp id (fun h => by omega)⟩)
              have hcells : ∀ ph w', MC wr ov.ownBlock ph w' → w'.cell? ⟨w.heap.size, 3, none⟩ = some (.slice (some ⟨b, off, none⟩) l.length c) ∧ w'.cell? ⟨w.heap.size + 1, 3, none⟩ = some (.slice (some ⟨b', off', none⟩) l'.length c') ∧ w'.cell? ⟨b, off + j * 4, none⟩ = some (.int .i64 tk) ∧ w'.cell? ⟨b, off + j * 4 + 1, none⟩ = some (.int .i64 tn) ∧ w'.cell? ⟨b, off + j * 4 + 2, none⟩ = some (.string ts) ∧ w'.cell? ⟨b, off + j * 4 + 3, none⟩ = some (.slice ta tl.length tc) ∧ w'.cell? ⟨b', off' + j * 4, none⟩ = some (.int .i64 uk) ∧ w'.cell? ⟨b', off' + j * 4 + 1, none⟩ = some (.int .i64 un) ∧ w'.cell? ⟨b', off' + j * 4 + 2, none⟩ = some (.string us) ∧ w'.cell? ⟨b', off' + j * 4 + 3, none⟩ = some (.slice ua ul.length uc) := fun ph w' hC => by
                have hg := hC.grown
                have hb1 : Box w' w.heap.size _ _ := (hg.block _ HA.out.bp.lt HA.out.ne.2.1).trans HA.out.bp
                have hb2 : Box w' (w.heap.size + 1) _ _ := (hg.block _ HA.out.bt.lt HA.out.ne.2.2).trans HA.out.bt
                exact ⟨hb1.cell 3, hb2.cell 3, hg.cell d0 (HA.out.ne.1 b hbb), hg.cell d1 (HA.out.ne.1 b hbb), hg.cell d2 (HA.out.ne.1 b hbb), hg.cell d3 (HA.out.ne.1 b hbb), hg.cell e0 (HA.out.ne.1 b' hbb'), hg.cell e1 (HA.out.ne.1 b' hbb'), hg.cell e2 (HA.out.ne.1 b' hbb'), hg.cell e3 (HA.out.ne.1 b' hbb')⟩
              have HC := Lib.hid hcells
              have HCALL := Lib.hid hcall
              have HR : Hid (mgL (l.take (j + 1)) (l'.take (j + 1)) fs = R) := by rw [Hid, mgL_take l l' fs j hlt hlt' (by rw [HG.out]; exact hgb), HG.out, hR]
              clear hcells hcall hR te ue ht hu hBr hgb d0 d1 d2 d3 e0 e1 e2 e3
              gi_wp2_with fail
              refine wpIn_region_phases 16 10 11 [.det (.pointer (some ⟨w.heap.size, 3, none⟩)), .det (.slice (some ⟨b, off, none⟩) l.length c), .det (.int .i64 j), .det (.pointer (some ⟨b, off + j * 4, none⟩)), .det (.agg #[.int .i64 tk, .int .i64 tn, .string ts, .slice ta tl.length tc]), .det (.pointer (some ⟨w.heap.size + 1, 3, none⟩)), .det (.slice (some ⟨b', off', none⟩) l'.length c'), .det (.int .i64 j), .det (.pointer (some ⟨b', off' + j * 4, none⟩)), .det (.agg #[.int .i64 uk, .int .i64 un, .string us, .slice ua ul.length uc]), .det ov, .any (MgR n₀ wr.heap.size ov R), .any (MgR n₀ wr.heap.size ov R), .any (MgV n₀ wr.heap.size ov R.1), .det (.bool R.2), .any (MgV n₀ wr.heap.size ov R.1)]
                (MR wr.heap.size ov.ownBlock) (MC wr ov.ownBlock) hf hd (fun k f args w R h => callsIn_of_calls hF h) (by kernel_rfl) (by kernel_rfl) (by omega) (by omega) (by kernel_rfl) (fun i b _ => mg_hys _ _ _ _ _ _ _ _ _ _ _ _ _ _ _ _ _ i b) (MC.start _ _) ?_
              simp only [List.take_succ_cons, List.take_zero, List.drop_succ_cons, List.drop_zero]
              clear r3 u3
              iterate 10 (
                refine wpR_step (fun K hK => ?_)
                go_simp
                apply And.intro
                · rw [yieldsR, if_neg (by decide), if_neg (by decide)]
                  intro ph w' hC _
                  obtain ⟨q1, q2, q3, q4, q5, q6, q7, q8, q9, q10⟩ := HC.out ph w' hC
                  have Hq := Lib.hid (And.intro hC (MR.refl hC))
                  clear hC
                  go_simp
                  exact ⟨Hq.out.2, Hq.out.1⟩
                refine nextM_det (hK _ _ ?_)
                clear hK K)
              refine wpR_step (fun K hK => ?_)
              go_simp
              apply And.intro
              · rw [yieldsR, if_pos rfl]
                intro w' hC _
                have Hq : Hid (MC wr ov.ownBlock 1 w' ∧ MR wr.heap.size ov.ownBlock 0 w' w') := ⟨hC, MR.refl hC⟩
                clear hC
                go_simp
                exact ⟨Hq.out.2, Hq.out.1⟩
              refine nextM_det (hK _ _ ?_)
              clear hK K
              refine wpR_step (fun K hK => ?_)
              go_simp
              apply And.intro
              · rw [yieldsR, if_neg (by decide), if_pos rfl]
                intro w' hC _
                have Hq : Hid (w'.heap.size = wr.heap.size ∧ Below wr.heap.size wr w') := ⟨hC.1, hC.2.2⟩
                clear hC
                go_simp
                refine (HCALL.out w' Hq.out.2).mono ?_
                rintro e w2 ⟨u, rfl, h1, h2, h3⟩
                exact ⟨u, rfl, h1 Hq.out.1, h2, h3⟩
              refine nextM_any (fun rv => hK _ _ ?_)
              clear hK K
              refine wpR_step (fun K hK => ?_)
              go_simp
              apply And.intro
              · rw [yieldsR, if_neg (by decide), if_neg (by decide)]
                intro ph w' hC hd'
                have hu : MgR n₀ wr.heap.size ov R rv w' := hd' ⟨11, .data⟩ (by simp) rfl rv rfl
                have Hq := Lib.hid (And.intro (MR.refl hC) (And.intro hC hu))
                clear hC hd' hu
                go_simp
                exact Hq.out
              refine nextM_any (fun rw' => hK _ _ ?_)
              clear hK K
              refine wpR_step (fun K hK => ?_)
              go_simp
              apply And.intro
              · rw [yieldsR, if_neg (by decide), if_neg (by decide)]
                intro ph w' hC hd'
                have hu : MgR n₀ wr.heap.size ov R rw' w' := hd' ⟨12, .data⟩ (by simp) rfl rw' rfl
                obtain ⟨v', rfl, hu⟩ := hu
                have Hq := Lib.hid (And.intro (MR.refl hC) (And.intro hC hu))
                clear hC hd' hu
                go_simp
                exact Hq.out
              refine nextM_any (fun v1 => hK _ _ ?_)
              clear hK K
              refine wpR_step (fun K hK => ?_)
              go_simp
              apply And.intro
              · rw [yieldsR, if_neg (by decide), if_neg (by decide)]
                intro ph w' hC hd'
                have hu : MgR n₀ wr.heap.size ov R rw' w' := hd' ⟨12, .data⟩ (by simp) rfl rw' rfl
                obtain ⟨v', rfl, hu⟩ := hu
                have Hq := Lib.hid (And.intro (MR.refl hC) hC)
                clear hC hd' hu
                go_simp
                exact Hq.out
              refine nextM_det (hK _ _ ?_)
              clear hK K
              refine wpR_step (fun K hK => ?_)
              go_simp
              apply And.intro
              · rw [yieldsR, if_neg (by decide), if_neg (by decide)]
                intro ph w' hC hd'
                have hu : MgV n₀ wr.heap.size ov R.1 v1 w' := hd' ⟨13, .data⟩ (by simp) rfl v1 rfl
                have Hq := Lib.hid (And.intro (MR.refl hC) (And.intro hC hu))
                clear hC hd' hu
                go_simp
                exact Hq.out
              refine nextM_any (fun v2 => hK _ _ ?_)
              clear hK K
              refine wpR_nil ?_
              intro w3 hC hE
              have hv : MgV n₀ wr.heap.size ov R.1 v2 w3 := hE 15 v2 rfl
              clear hE
              have hC' : wr.grownBy w3 ov.ownBlock := hC.2
              obtain ⟨hn3, hlo3, hrow, hown⟩ := hv
              have HS2 := Lib.hid (HA.out.step hrow hC' hown)
              clear hC hC' hrow hown hn3 hlo3
              gi_wp2_with fail
              go_roundw
              case rel => exact ⟨j + 1, _, rfl, hlt, by go_num, by rw [HR.out], by rw [HR.out]; exact HS2.out⟩
              case measure => simp [intOf]; omega
          · have hj' : j = l.length := by omega
            have hF : Hid (mgT (.node k n s l) (.node k n s l') fs = (G.1, G.2)) := by rw [Hid, hM.out, ← HG.out, List.take_of_length_le (show l.length ≤ j by omega), List.take_of_length_le (show l'.length ≤ j by have := HLEN.out; omega)]
            clear hBr
            gi_wp2_with fail
            exact bodyPost_ret (v := .tuple #[_, .bool _]) (by simp [results, Tryd.results108, go_sem]) rfl (HA.out.post hF.out)
      · have hM : Hid (mgT (.node k n s l) (.node k' n' s' l') fs = (fs, false)) := by
          rw [Hid, mgT, if_neg hk, if_neg]
          simp only [topT, topB, decide_eq_true_eq]
          exact htop
        have HA0 := Lib.hid (MgAt.start #[.int .i64 k, .int .i64 n, .string s, .slice a l.length c] #[.int .i64 k', .int .i64 n', .string s', .slice a' l'.length c'] hr hn)
        clear hr HI hv hl hl' hk
        by_cases h1 : k = k'
        · by_cases h2 : n = n'
          · by_cases h3 : s = s'
            · have h4 : (((l.length : Nat) : Int) != (l'.length : Nat)) = true := by
                simp only [bne_iff_ne]
                intro e
                exact htop ⟨h1, h2, h3, by omega⟩
              subst h1 h2 h3
              clear htop
              go_enter Tryd.func108, Tryd.ntmps108
              go_wp2_with fail
              exact bodyPost_ret (v := .tuple #[v, .bool false]) (by simp [results, Tryd.results108, go_sem]) rfl (HA0.out.post hM.out)
            · have h3' : (s.toList == s'.toList) = false := bytes_ne h3
              subst h1 h2
              clear htop h3
              go_enter Tryd.func108, Tryd.ntmps108
              go_wp2_with fail
              exact bodyPost_ret (v := .tuple #[v, .bool false]) (by simp [results, Tryd.results108, go_sem]) rfl (HA0.out.post hM.out)
          · have h2' : (n != n') = true := by simpa using h2
            subst h1
            clear htop h2
            go_enter Tryd.func108, Tryd.ntmps108
            go_wp2_with fail
            exact bodyPost_ret (v := .tuple #[v, .bool false]) (by simp [results, Tryd.results108, go_sem]) rfl (HA0.out.post hM.out)
        · have h1' : (k != k') = true := by simpa using h1
          clear htop h1
          go_enter Tryd.func108, Tryd.ntmps108
          go_wp2_with fail
          exact bodyPost_ret (v := .tuple #[v, .bool false]) (by simp [results, Tryd.results108, go_sem]) rfl (HA0.out.post hM.out)
end Go.Proofs.YtlaeaoecmnaneaaDoor
