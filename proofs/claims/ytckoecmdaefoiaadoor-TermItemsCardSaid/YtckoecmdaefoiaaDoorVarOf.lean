import Derived.Lib.SlBytesRow
import Derived.Test.YtckoecmdaefoiaaDoorDict
namespace Go.Proofs.YtckoecmdaefoiaaDoor
open Go.RowKit Go

attribute [local go_sem] Oper.semAt_some monoUpon Yld.says

theorem byteCells_get {bs : List UInt8} {i : Nat} (h : i < bs.length) : (Lib.byteCells bs)[i]? = some (.int .u8 (bs[i].toNat : Int)) := by simp [Lib.byteCells, h]
theorem Bytes.base {B C : Nat} {W : World} {v : Value} {bs : List UInt8} (h : Bytes B W v bs) (hc : C ≤ B) : Bytes C W v bs := by
  refine ⟨h.1, h.2.imp id ?_⟩
  rintro ⟨g, cap, cur, e, h1, h2⟩
  exact ⟨g, cap, cur, e, by omega, h2⟩
theorem Bytes.nil {B : Nat} {W : World} : Bytes B W (.slice none 0 0) [] := World.ownsRow_nil _ _ _ _
theorem Bytes.keep {B : Nat} {W W' : World} {v : Value} {bs : List UInt8} (h : Bytes B W v bs) (hk : Below W.heap.size W W') : Bytes B W' v bs := World.ownsRow.kept h (grown_b none hk) (by rcases v.ownBlock with _ | _ <;> simp)
def IsBytes (B : Nat) (bs : List UInt8) (u : Value) (W : World) : Prop := Bytes B W u bs
theorem IsBytes.stable (B : Nat) (bs : List UInt8) : (Yld.any (IsBytes B bs)).stable := fun _ _ _ he h => Bytes.keep h he
theorem Bytes.convert {B : Nat} {W : World} {v : Value} {bs : List UInt8} (h : Bytes B W v bs) (h0 : 0 < bs.length) : ∃ g cap, v = .slice (some ⟨g, 0, none⟩) bs.length cap ∧ (Go.convert 155 9 v).run Tryd.prog W = .ok (.string ⟨bs.toArray⟩) W := by
  have hh := h
  rcases h.2 with ⟨_, h1⟩ | ⟨g, cap, cur, rfl, _, _, _, _, _, _⟩
  · omega
  · refine ⟨g, cap, rfl, ?_⟩
    have hc := Lib.run_convert_whole (P := Tryd.prog) W 155 5 9 Tryd.underlying155 Tryd.underlying5 Tryd.underlying9 g 0 ⟨bs.toArray⟩ (fun i hi => by
      have hi' : i < bs.length := by simpa [ByteArray.size] using hi
      have := World.ownsRow.cells hh (g := g) rfl i _ (byteCells_get hi')
      rw [Addr.add_lit] at this
      exact this) cap
    simpa [ByteArray.size] using hc

/-- The number of a text among those that were met. -/
def numK (ks : List (List UInt8)) (key : List UInt8) : Int := if key ∈ ks then (ks.idxOf key : Int) else ks.length
def addK (ks : List (List UInt8)) (key : List UInt8) : List (List UInt8) := if key ∈ ks then ks else ks ++ [key]

theorem Dict.set {W : World} {b : Nat} {ks : List (List UInt8)} (h : Dict W b ks) (B i : Nat) (v : Value) (hne : b ≠ B) : Dict (W.setCell ⟨B, i, none⟩ v) b ks := h.kept (grown_set B i W v) (by simpa using hne)
theorem grown_below2 {w w6 FW : World} {bm : Nat} (h : w.grownBy w6 (some bm)) (k : Below w.heap.size w6 FW) : w.grownBy FW (some bm) :=
  ⟨k.os.trans h.os, k.tape.trans h.tape, k.output.trans h.output, Nat.le_trans h.size k.size, fun j hj hn => (k.block j hj).trans (h.block j hj hn)⟩

def VarPost (T U : Tr) (ks : List (List UInt8)) (bm : Nat) (w : World) (e : Ending) (w' : World) : Prop :=
  e = .returned (.agg #[.int .i64 1, .int .i64 (numK ks (textT T ++ textT U)), .string ⟨#[]⟩, .slice none 0 0]) ∧ Dict w' bm (addK ks (textT T ++ textT U)) ∧ w.grownBy w' (some bm)

set_option maxRecDepth 100000 in
set_option maxHeartbeats 2000000 in
theorem variable_any (T U : Tr) (tv uv : Value) (ks : List (List UInt8)) (bm : Nat) (w : World) (hT : IsT w.heap.size w T tv) (hU : IsT w.heap.size w U uv) (hd0 : Dict w bm ks) (hks : ks.length < 1000000000) (hlen : (textT T).length + (textT U).length ≤ 1000000000)
    (htab : Lib.TabBelow Tryd.prog w.heap.size w "internal/strconv.uint64pow10" .u64 Lib.pow10Tab) :
    Calls Tryd.prog 131 #[.map (some bm), tv, uv] w (VarPost T U ks bm w) := by
  refine (callsIn_wide (n := 9)).1 ?_
  generalize hF : Fence.wide = F
  have hd : F.depth = none := by subst hF; rfl
  have hf : ∀ f, F.fn f := fun f => by subst hF; trivial
  have hro : F.round = none := by subst hF; rfl
  cases hTc : T with
  | node k n s l =>
  cases hUc : U with
  | node k' n' s' l' =>
  subst hTc hUc
  have hT' := hT
  have hU' := hU
  obtain ⟨a, c, rfl, _⟩ := hT'.open
  obtain ⟨a', c', rfl, _⟩ := hU'.open
  clear hT' hU'
  have HT := Lib.hid hT
  have HU := Lib.hid hU
  have HD := Lib.hid hd0
  clear hT hU hd0
  generalize hkey : textT (.node k n s l) ++ textT (.node k' n' s' l') = key
  have Hkey := Lib.hid hkey
  have hkl : 0 < key.length ∧ key.length ≤ 1000000000 := by
    rw [← hkey, List.length_append]
    refine ⟨?_, hlen⟩
    simp only [textT, List.length_append, numT_length]
    omega
  clear hkey
  have hB0 := below_a3 (Nat.le_refl w.heap.size) (.cells #[.int .i64 k, .int .i64 n, .string s, .slice a l.length c] 25) (.cells #[.int .i64 k', .int .i64 n', .string s', .slice a' l'.length c'] 25) (.cells #[.int .i64 0, .int .i64 0, .string ⟨#[]⟩, .slice none 0 0] 25)
  have b0 : Box (((w.alloc (.cells #[.int .i64 k, .int .i64 n, .string s, .slice a l.length c] 25)).alloc (.cells #[.int .i64 k', .int .i64 n', .string s', .slice a' l'.length c'] 25)).alloc (.cells #[.int .i64 0, .int .i64 0, .string ⟨#[]⟩, .slice none 0 0] 25)) w.heap.size #[.int .i64 k, .int .i64 n, .string s, .slice a l.length c] 25 := ((Box.at rfl).alloc _).alloc _
  have b1 : Box (((w.alloc (.cells #[.int .i64 k, .int .i64 n, .string s, .slice a l.length c] 25)).alloc (.cells #[.int .i64 k', .int .i64 n', .string s', .slice a' l'.length c'] 25)).alloc (.cells #[.int .i64 0, .int .i64 0, .string ⟨#[]⟩, .slice none 0 0] 25)) (w.heap.size + 1) #[.int .i64 k', .int .i64 n', .string s', .slice a' l'.length c'] 25 := (Box.at (by simp)).alloc _
  have b2 : Box (((w.alloc (.cells #[.int .i64 k, .int .i64 n, .string s, .slice a l.length c] 25)).alloc (.cells #[.int .i64 k', .int .i64 n', .string s', .slice a' l'.length c'] 25)).alloc (.cells #[.int .i64 0, .int .i64 0, .string ⟨#[]⟩, .slice none 0 0] 25)) (w.heap.size + 1 + 1) #[.int .i64 0, .int .i64 0, .string ⟨#[]⟩, .slice none 0 0] 25 := Box.at (by simp)
  have hd3 := HD.out.kept (grown_b none hB0) (by simp)
  have htab3 : Lib.TabBelow Tryd.prog w.heap.size (((w.alloc (.cells #[.int .i64 k, .int .i64 n, .string s, .slice a l.length c] 25)).alloc (.cells #[.int .i64 k', .int .i64 n', .string s', .slice a' l'.length c'] 25)).alloc (.cells #[.int .i64 0, .int .i64 0, .string ⟨#[]⟩, .slice none 0 0] 25)) "internal/strconv.uint64pow10" .u64 Lib.pow10Tab := htab.on hB0
  have hs3 : (((w.alloc (.cells #[.int .i64 k, .int .i64 n, .string s, .slice a l.length c] 25)).alloc (.cells #[.int .i64 k', .int .i64 n', .string s', .slice a' l'.length c'] 25)).alloc (.cells #[.int .i64 0, .int .i64 0, .string ⟨#[]⟩, .slice none 0 0] 25)).heap.size = w.heap.size + 3 := by simp
  refine callsIn_of_wp Tryd.func131 rfl (hf _) ?_ hro
  simp only [Tryd.ntmps131, List.size_toArray, List.length_cons, List.length_nil, Nat.reduceAdd, Nat.reduceSub, Array.replicate_succ, Array.replicate_zero, List.push_toArray, List.append_toArray, List.nil_append, List.cons_append]
  gi_wp2_with fail
  generalize (((w.alloc (.cells #[.int .i64 k, .int .i64 n, .string s, .slice a l.length c] 25)).alloc (.cells #[.int .i64 k', .int .i64 n', .string s', .slice a' l'.length c'] 25)).alloc (.cells #[.int .i64 0, .int .i64 0, .string ⟨#[]⟩, .slice none 0 0] 25)) = W3 at *
  have t0 := b0.cell 0
  have t1 := b0.cell 1
  have t2 := b0.cell 2
  have t3 := b0.cell 3
  have u0 := b1.cell 0
  have u1 := b1.cell 1
  have u2 := b1.cell 2
  have u3 := b1.cell 3
  simp only [List.getElem?_toArray, List.getElem?_cons_succ, List.getElem?_cons_zero] at t0 t1 t2 t3 u0 u1 u2 u3
  have v0 : w.heap.size < W3.heap.size := by omega
  have v1 : w.heap.size + 1 < W3.heap.size := by omega
  refine wpIn_region_mono_tail 3 [.det (.agg #[.int .i64 k, .int .i64 n, .string s, .slice a l.length c]), .any (IsBytes W3.heap.size (textT (.node k n s l))), .det (.agg #[.int .i64 k', .int .i64 n', .string s', .slice a' l'.length c'])] hf hd (fun k f args w R h => callsIn_of_calls hF h) (by kernel_rfl) (by kernel_rfl) ?_ ?_
  · intro y hy
    simp only [List.mem_cons, List.not_mem_nil, or_false] at hy
    rcases hy with rfl | rfl | rfl <;> first | trivial | exact IsBytes.stable _ _
  simp only [List.take_succ_cons, List.take_zero, List.drop_succ_cons, List.drop_zero]
  refine wpM_step (fun K hK => ?_)
  go_simp
  apply And.intro
  · intro w' hC _
    have q1 := hC.old.1
    have hbs := hC.old.2.2
    clear hC
    go_simp
    exact Ext.refl _
  refine nextM_det (hK _ _ ?_)
  clear hK K
  refine wpM_step (fun K hK => ?_)
  go_simp
  apply And.intro
  · intro w' hC _
    go_simp
    refine ⟨Ext.refl _, (appendText_any w'.heap.size w.heap.size (by have := Below.size hC; omega) (.node k n s l) _ _ [] w' ((HT.out.below hB0).below (Below.mono hC (by omega))) Bytes.nil (Nat.le_refl _) (by simp; omega) (fun w'' h => htab3 w'' ((Below.mono hC (by omega)).trans (Below.mono h (by have := Below.size hC; omega))))).mono ?_⟩
    rintro e w2 ⟨x, rfl, hx, hb, _⟩
    exact ⟨x, rfl, hb, Bytes.base (by simpa using hx) (by have := Below.size hC; omega)⟩
  refine nextM_any (fun x => hK _ _ ?_)
  clear hK K
  refine wpM_step (fun K hK => ?_)
  go_simp
  apply And.intro
  · intro w' hC _
    have q1 := hC.old.1
    have hbs := hC.old.2.2
    clear hC
    go_simp
    exact Ext.refl _
  refine nextM_det (hK _ _ ?_)
  clear hK K
  refine wpM_nil ?_
  intro w4 hC hE
  have hx : IsBytes W3.heap.size (textT (.node k n s l)) x w4 := hE 1 x rfl
  clear hE
  have hs4 := Below.size hC
  gi_wp2_with fail
  refine CallsIn.mono (callsIn_of_calls hF (appendText_any W3.heap.size w.heap.size (by omega) (.node k' n' s' l') _ _ (textT (.node k n s l)) w4 ((HU.out.below hB0).below (Below.mono hC (by omega))) hx hs4 hlen (fun w'' h => htab3 w'' ((Below.mono hC (by omega)).trans (Below.mono h (by omega)))))) ?_
  rintro e w5 ⟨y, rfl, hy, hB5, _⟩
  rw [Hkey.out] at hy
  obtain ⟨g, cap, hyv, hconv⟩ := hy.convert hkl.1
  subst hyv
  have hB6 : Below W3.heap.size W3 w5 := Below.trans hC hB5
  have hd5 := hd3.kept (grown_b none hB6) (by simp)
  have b5 := Box.keep hB6 b2
  have hks2 : (⟨key.toArray⟩ : ByteArray).data.toList = key := by simp
  have hkm : (⟨key.toArray⟩ : ByteArray).size ≤ maxLen := by simp only [ByteArray.size, List.size_toArray]; unfold maxLen; omega
  have hlook := hd5.look ⟨key.toArray⟩ hkm
  have hput := hd5.put hks ⟨key.toArray⟩ hkm
  rw [hks2] at hlook hput
  have hlen5 := fun ty => hd5.len ty
  have HH := Lib.hid (And.intro hd5 (hB0.trans (hB6.mono (by omega))))
  clear hC hB5 hB6 hd3 b0 b1 b2 hx hy t0 t1 t2 t3 u0 u1 u2 u3
  by_cases hmem : key ∈ ks
  · rw [if_pos hmem, decide_eq_true hmem] at hlook
    have HM := Lib.hid hmem
    have hnum : numK ks key = (ks.idxOf key : Int) := by rw [numK, if_pos hmem]
    have hadd : addK ks key = ks := by rw [addK, if_pos hmem]
    have hneb : w.heap.size + 1 + 1 ≠ bm := HH.out.1.not_box b5
    clear hput hmem
    have g0 := b5.frozen 0
    have g1 := b5.frozen 1
    have g2 := b5.frozen 2
    have g3 := b5.frozen 3
    have r0 := b5.cell 0
    have r1 := b5.cell 1
    have r2 := b5.cell 2
    have r3 := b5.cell 3
    have lr := b5.lt
    simp only [List.getElem?_toArray, List.getElem?_cons_succ, List.getElem?_cons_zero] at r0 r1 r2 r3
    gi_wp2_with fail
    have z := (((b5.set 0 (.int .i64 1)).set 1 (.int .i64 (ks.idxOf key : Int))).set 2 (.string ⟨#[]⟩)).set 3 (.slice none 0 0)
    have y0 := z.cell 0
    have y1 := z.cell 1
    have y2 := z.cell 2
    have y3 := z.cell 3
    have zB := ((((Below.refl w.heap.size w5).setCell (p := ⟨w.heap.size + 1 + 1, 0, none⟩) (by simp; omega) (.int .i64 1)).setCell (p := ⟨w.heap.size + 1 + 1, 1, none⟩) (by simp; omega) (.int .i64 (ks.idxOf key : Int))).setCell (p := ⟨w.heap.size + 1 + 1, 2, none⟩) (by simp; omega) (.string ⟨#[]⟩)).setCell (p := ⟨w.heap.size + 1 + 1, 3, none⟩) (by simp; omega) (.slice none 0 0)
    have zG := grown_below2 (grown_b (some bm) HH.out.2) zB
    have zD := ((((HH.out.1).set (w.heap.size + 1 + 1) 0 (.int .i64 1) (Ne.symm hneb)).set (w.heap.size + 1 + 1) 1 (.int .i64 (ks.idxOf key : Int)) (Ne.symm hneb)).set (w.heap.size + 1 + 1) 2 (.string ⟨#[]⟩) (Ne.symm hneb)).set (w.heap.size + 1 + 1) 3 (.slice none 0 0) (Ne.symm hneb)
    clear z zB
    generalize (((((w5.setCell ⟨w.heap.size + 1 + 1, 0, none⟩ (.int .i64 1)).setCell ⟨w.heap.size + 1 + 1, 1, none⟩ (.int .i64 (ks.idxOf key : Int))).setCell ⟨w.heap.size + 1 + 1, 2, none⟩ (.string ⟨#[]⟩)).setCell ⟨w.heap.size + 1 + 1, 3, none⟩ (.slice none 0 0))) = FW at *
    simp at y0 y1 y2 y3
    refine bodyPost_ret (v := .agg #[.int .i64 1, .int .i64 (ks.idxOf key : Int), .string ⟨#[]⟩, .slice none 0 0]) (by simp [results, Tryd.results131, go_sem, y0, y1, y2, y3]) rfl ⟨?_, ?_, zG⟩
    · rw [Hkey.out, hnum]
    · rw [Hkey.out, hadd]
      exact zD
  · rw [if_neg hmem, decide_eq_false hmem] at hlook
    have hnum : numK ks key = (ks.length : Int) := by rw [numK, if_neg hmem]
    have hadd : addK ks key = ks ++ [key] := by rw [addK, if_neg hmem]
    obtain ⟨w6, hrun, hd6, hg6⟩ := hput hmem
    have hneb : w.heap.size + 1 + 1 ≠ bm := HH.out.1.not_box b5
    have b6 : Box w6 (w.heap.size + 1 + 1) #[.int .i64 0, .int .i64 0, .string ⟨#[]⟩, .slice none 0 0] 25 := (hg6.block _ b5.lt (by simpa using hneb)).trans b5
    have HG := Lib.hid (And.intro hd6 hg6)
    clear hput hmem hd6 hg6 b5
    have g0 := b6.frozen 0
    have g1 := b6.frozen 1
    have g2 := b6.frozen 2
    have g3 := b6.frozen 3
    have r0 := b6.cell 0
    have r1 := b6.cell 1
    have r2 := b6.cell 2
    have r3 := b6.cell 3
    have lr := b6.lt
    simp only [List.getElem?_toArray, List.getElem?_cons_succ, List.getElem?_cons_zero] at r0 r1 r2 r3
    gi_wp2_with fail
    have z := (((b6.set 0 (.int .i64 1)).set 1 (.int .i64 (ks.length : Int))).set 2 (.string ⟨#[]⟩)).set 3 (.slice none 0 0)
    have y0 := z.cell 0
    have y1 := z.cell 1
    have y2 := z.cell 2
    have y3 := z.cell 3
    have zB := ((((Below.refl w.heap.size w6).setCell (p := ⟨w.heap.size + 1 + 1, 0, none⟩) (by simp; omega) (.int .i64 1)).setCell (p := ⟨w.heap.size + 1 + 1, 1, none⟩) (by simp; omega) (.int .i64 (ks.length : Int))).setCell (p := ⟨w.heap.size + 1 + 1, 2, none⟩) (by simp; omega) (.string ⟨#[]⟩)).setCell (p := ⟨w.heap.size + 1 + 1, 3, none⟩) (by simp; omega) (.slice none 0 0)
    have zG := grown_below2 (grown_trans (grown_b (some bm) HH.out.2) HG.out.2) zB
    have zD := ((((HG.out.1).set (w.heap.size + 1 + 1) 0 (.int .i64 1) (Ne.symm hneb)).set (w.heap.size + 1 + 1) 1 (.int .i64 (ks.length : Int)) (Ne.symm hneb)).set (w.heap.size + 1 + 1) 2 (.string ⟨#[]⟩) (Ne.symm hneb)).set (w.heap.size + 1 + 1) 3 (.slice none 0 0) (Ne.symm hneb)
    clear z zB
    generalize (((((w6.setCell ⟨w.heap.size + 1 + 1, 0, none⟩ (.int .i64 1)).setCell ⟨w.heap.size + 1 + 1, 1, none⟩ (.int .i64 (ks.length : Int))).setCell ⟨w.heap.size + 1 + 1, 2, none⟩ (.string ⟨#[]⟩)).setCell ⟨w.heap.size + 1 + 1, 3, none⟩ (.slice none 0 0))) = FW at *
    simp at y0 y1 y2 y3
    refine bodyPost_ret (v := .agg #[.int .i64 1, .int .i64 (ks.length : Int), .string ⟨#[]⟩, .slice none 0 0]) (by simp [results, Tryd.results131, go_sem, y0, y1, y2, y3]) rfl ⟨?_, ?_, zG⟩
    · rw [Hkey.out, hnum]
    · rw [Hkey.out, hadd]
      exact zD
end Go.Proofs.YtckoecmdaefoiaaDoor
