/- The second reading of Vars; what each call of the law of orders hands back, told in one form. -/
import Derived.Test.YtdigiaigbcfccaaGreatDoorTog
import Derived.Test.YtdigiaigbcfccaaGreatDoorRefTops
import Derived.Test.YtdigiaigbcfccaaGreatDoorRefSyms
import Derived.Test.YtdigiaigbcfccaaGreatDoorRefSym
namespace Go.Proofs.YtdigiaigbcfccaaGreatDoor
open Go.RowKit Go

theorem refCheckAllV_any (l : List Tr) (a : Option Addr) (c : Nat) (w : World) (hl : IsL w.heap.size w l a) (hs : sizeL l ≤ 1000000) (hd : ∀ t, t ∈ l → t.deep ≤ 1000000000) :
    Calls Tryz.prog 38 #[.slice a l.length c] w fun e w' => e = .returned (.int .i64 (errI (togB l))) ∧ Below w.heap.size w w' := by
  go_enter Tryz.func38, Tryz.ntmps38
  go_wp2_with fail
  refine (refTogN_any l a c w hl hs hd).mono ?_
  rintro e w1 ⟨rfl, hB⟩
  obtain ⟨r, hr⟩ : ∃ r, togB l = r := ⟨_, rfl⟩
  have HR := Lib.hid hr
  rw [hr]
  clear hr
  cases r <;> (go_wp2_with fail; go_ret; exact ⟨by rw [HR.out]; rfl, hB⟩)
theorem refVarsV_any (l : List Tr) (a : Option Addr) (c : Nat) (w : World) (hl : IsL w.heap.size w l a) (hsz : sizeL l ≤ 1000000) (hd : ∀ t, t ∈ l → t.deep ≤ 1000000000) :
    Calls Tryz.prog 9 #[.slice a l.length c] w (VarsPost l w) := by
  have HL := Lib.hid hl
  have HC := Lib.hid (refCheckAllV_any l a c w hl hsz hd)
  clear hl hd
  go_enter Tryz.func9, Tryz.ntmps9
  go_wp2_with fail
  refine HC.out.mono ?_
  rintro e W1 ⟨rfl, B⟩
  clear HC
  cases hr : togB l with
  | false =>
    have HF := Lib.hid (And.intro hr B)
    rw [show errI false = 3 from rfl]
    clear hr B
    go_wp2_with fail
    go_ret2
    exact ⟨HF.out.2, by rw [HF.out.1]; rfl⟩
  | true =>
    rw [show errI true = 0 from rfl]
    have HN := Lib.hid (refVarsOf_any l a c W1 (HL.out.up B B.size) hsz)
    have HR := Lib.hid (And.intro hr B)
    clear hr B
    go_wp2_with fail
    refine HN.out.mono ?_
    rintro e W2 ⟨v, rfl, h1, h2⟩
    have HF := Lib.hid (And.intro h1 (HR.out.2.trans (h2.mono HR.out.2.size)))
    clear h1 h2
    go_wp2_with fail
    go_ret2
    exact ⟨HF.out.2, by rw [HR.out.1]; exact ⟨_, rfl, HF.out.1.base HR.out.2.size⟩⟩

/-- Two numbers are handed back. -/
def CpQ (p q : Int) (w : World) (e : Ending) (w' : World) : Prop := e = .returned (.tuple #[.int .i64 p, .int .i64 q]) ∧ Below w.heap.size w w'
theorem CpQ.of {X Y : Tr} {w : World} {e : Ending} {w' : World} {p q : Int} (h : e = .returned (.tuple #[.int .i64 (ordV X Y), .int .i64 (ordE X Y)]) ∧ Below w.heap.size w w') (hp : ordV X Y = p) (hq : ordE X Y = q) : CpQ p q w e w' := by
  subst hp hq
  exact h
def timV (y : Int) (T : Tr) : Int := if isB T then (tmsT y T : Int) else 0
theorem CpQ.tms {y : Int} {X : Tr} {w : World} {e : Ending} {w' : World} {p q : Int} (h : TimesPost y X w e w') (hp : timV y X = p) (hq : errI (isB X) = q) : CpQ p q w e w' := by
  subst hp hq
  exact h
/-- A truth and an error. -/
def BoQ (b : Bool) (q : Int) (w : World) (e : Ending) (w' : World) : Prop := e = .returned (.tuple #[.bool b, .int .i64 q]) ∧ Below w.heap.size w w'
theorem BoQ.of {X : Tr} {w : World} {e : Ending} {w' : World} {b : Bool} {q : Int} (h : GroundPost X w e w') (hp : (isB X && grdB X) = b) (hq : errI (isB X) = q) : BoQ b q w e w' := by
  subst hp hq
  exact h
/-- Numbers and an error. -/
def VsQ (ns : List Int) (q : Int) (w : World) (e : Ending) (w' : World) : Prop := ∃ v, e = .returned (.tuple #[v, .int .i64 q]) ∧ RdN w'.heap.size w' ns v ∧ Below w.heap.size w w'
def vrsV (l : List Tr) : List Int := if togB l then varsL [] l else []
theorem VsQ.of {l : List Tr} {w : World} {e : Ending} {w' : World} {ns : List Int} {q : Int} (h : VarsPost l w e w') (hn : vrsV l = ns) (hq : errI (togB l) = q) : VsQ ns q w e w' := by
  subst hn hq
  obtain ⟨hB, h⟩ := h
  unfold vrsV
  cases hr : togB l with
  | false =>
    rw [hr] at h
    exact ⟨_, h, ⟨none, 0, rfl, by simp, fun h => by simp at h⟩, hB⟩
  | true =>
    rw [hr] at h
    obtain ⟨v, h1, h2⟩ := h
    exact ⟨v, h1, h2.rd, hB⟩
/-- Symbols and an error. -/
def SyQ (l : List Sym) (q : Int) (w : World) (e : Ending) (w' : World) : Prop := ∃ v, e = .returned (.tuple #[v, .int .i64 q]) ∧ RdY w' l v ∧ Below w.heap.size w w'
def symV' (X : Tr) : List Sym := if isB X then syT X [] else []
theorem SyQ.of {X : Tr} {w : World} {e : Ending} {w' : World} {l : List Sym} {q : Int} (h : SymbolsPost X w e w') (hl : symV' X = l) (hq : errI (isB X) = q) : SyQ l q w e w' := by
  subst hl hq
  obtain ⟨hB, h⟩ := h
  unfold symV'
  cases hr : isB X with
  | false =>
    rw [hr] at h
    exact ⟨_, h, ⟨none, 0, rfl, fun h => by simp at h⟩, hB⟩
  | true =>
    rw [hr] at h
    obtain ⟨v, xs, h1, h2, h3, h4⟩ := h
    obtain rfl := syms_same hr h2 h3
    exact ⟨v, h1, RdY.of h4, hB⟩
theorem SyQ.ref {X : Tr} {w : World} {e : Ending} {w' : World} {l : List Sym} {q : Int} (h : RSymsPost X w e w') (hl : symV' X = l) (hq : errI (isB X) = q) : SyQ l q w e w' := by
  subst hl hq
  obtain ⟨hB, h⟩ := h
  unfold symV'
  cases hr : isB X with
  | false =>
    rw [hr] at h
    exact ⟨_, h, ⟨none, 0, rfl, fun h => by simp at h⟩, hB⟩
  | true =>
    rw [hr] at h
    obtain ⟨v, h1, h4⟩ := h
    exact ⟨v, h1, RdY.of h4, hB⟩
theorem symV'_len {X : Tr} (h : X.size ≤ 1500) : (symV' X).length ≤ 1000000 := by
  unfold symV'
  split
  · have := syT_len X []
    simp at this
    omega
  · simp
theorem RdY.up {W W' : World} {l : List Sym} {v : Value} (h : RdY W l v) (hb : Below W.heap.size W W') (_ : W.heap.size ≤ W'.heap.size) : RdY W' l v := h.keep hb
end Go.Proofs.YtdigiaigbcfccaaGreatDoor
