/-
  Proved: windows of a list: their least and greatest numbers as functions, bounds, and what they are (plain lemmas); what the document's function that looks for the least and greatest numbers near an index returns; what the document's functions that test a band, and that tell how far a number is outside of bounds, return; what the document's functions that test an envelope return; what the document's functions that test an envelope, and that tell how far a list is outside of it, return; what the document's functions that tell how far a list is outside of an envelope return.
  Conditions: those of each theorem.
-/
import Derived.Test.YtkcfghbkcgommabSeq
namespace Go.Proofs.Ytkcfghbkcgommab.env
open Go.ChangeShapes Go.WideShapes Go.ChangeAt Go.RowKit Go.Joins
open Go.Proofs.Ytkcfghbkcgommab.core Go.Proofs.Ytkcfghbkcgommab.rown Go.Proofs.Ytkcfghbkcgommab.stk Go.Proofs.Ytkcfghbkcgommab.boxed Go.Proofs.Ytkcfghbkcgommab.ft Go.Proofs.Ytkcfghbkcgommab.seq
set_option linter.unusedVariables false
set_option linter.unusedSimpArgs false
/-- The coordinate that is asked for. -/
def vOf (ver : Bool) (p : P3) : Int := if ver = true then p.2.1 else p.1
theorem vOf_in {p : P3} (h : inF p = true) (ver : Bool) : 0 ≤ vOf ver p ∧ vOf ver p ≤ 255 := by
  have h := inF_of h
  unfold vOf
  split <;> omega
/-- The least and the greatest of c numbers from s on. -/
def mnR (g : Nat → Int) (s : Nat) : Nat → Int
  | 0 => 255
  | c + 1 => min (mnR g s c) (g (s + c))
def mxR (g : Nat → Int) (s : Nat) : Nat → Int
  | 0 => 0
  | c + 1 => max (mxR g s c) (g (s + c))
/-- Where the window of from and to begins, and how many elements of m it has. -/
def wS (a : Int) : Nat := (max 0 a).toNat
def wN (m : Nat) (a b : Int) : Nat := (min (b + 1) (m : Int) - max 0 a).toNat
def wLo (g : Nat → Int) (m : Nat) (a b : Int) : Int := mnR g (wS a) (wN m a b)
def wHi (g : Nat → Int) (m : Nat) (a b : Int) : Int := mxR g (wS a) (wN m a b)
theorem mn_in {g : Nat → Int} {s : Nat} : ∀ {c}, (∀ j, j < c → 0 ≤ g (s + j) ∧ g (s + j) ≤ 255) → 0 ≤ mnR g s c ∧ mnR g s c ≤ 255
  | 0, _ => by unfold mnR; omega
  | c + 1, h => by
    have h1 := mn_in (g := g) (s := s) (c := c) fun j hj => h j (by omega)
    have h2 := h c (by omega)
    unfold mnR; omega
theorem mx_in {g : Nat → Int} {s : Nat} : ∀ {c}, (∀ j, j < c → 0 ≤ g (s + j) ∧ g (s + j) ≤ 255) → 0 ≤ mxR g s c ∧ mxR g s c ≤ 255
  | 0, _ => by unfold mxR; omega
  | c + 1, h => by
    have h1 := mx_in (g := g) (s := s) (c := c) fun j hj => h j (by omega)
    have h2 := h c (by omega)
    unfold mxR; omega
theorem mn_le (g : Nat → Int) (s : Nat) : ∀ c j, j < c → mnR g s c ≤ g (s + j)
  | 0, j, h => absurd h (by omega)
  | c + 1, j, h => by
    unfold mnR
    by_cases e : j = c
    · subst e; omega
    · have := mn_le g s c j (by omega); omega
theorem mx_le (g : Nat → Int) (s : Nat) : ∀ c j, j < c → g (s + j) ≤ mxR g s c
  | 0, j, h => absurd h (by omega)
  | c + 1, j, h => by
    unfold mxR
    by_cases e : j = c
    · subst e; omega
    · have := mx_le g s c j (by omega); omega
theorem mn_at (g : Nat → Int) (s : Nat) : ∀ c, mnR g s c = 255 ∨ ∃ j, j < c ∧ mnR g s c = g (s + j)
  | 0 => .inl rfl
  | c + 1 => by
    unfold mnR
    rcases mn_at g s c with h | ⟨j, hj, h⟩
    · by_cases e : 255 ≤ g (s + c)
      · left; omega
      · exact .inr ⟨c, by omega, by omega⟩
    · by_cases e : g (s + j) ≤ g (s + c)
      · exact .inr ⟨j, by omega, by omega⟩
      · exact .inr ⟨c, by omega, by omega⟩
theorem mx_at (g : Nat → Int) (s : Nat) : ∀ c, mxR g s c = 0 ∨ ∃ j, j < c ∧ mxR g s c = g (s + j)
  | 0 => .inl rfl
  | c + 1 => by
    unfold mxR
    rcases mx_at g s c with h | ⟨j, hj, h⟩
    · by_cases e : g (s + c) ≤ 0
      · left; omega
      · exact .inr ⟨c, by omega, by omega⟩
    · by_cases e : g (s + c) ≤ g (s + j)
      · exact .inr ⟨j, by omega, by omega⟩
      · exact .inr ⟨c, by omega, by omega⟩
/-- The elements of a window. -/
theorem w_mem {m : Nat} {a b : Int} {j : Nat} : (∃ i, i < wN m a b ∧ j = wS a + i) ↔ (a ≤ (j : Int) ∧ (j : Int) ≤ b ∧ j < m) := by
  unfold wN wS
  constructor
  · rintro ⟨i, hi, rfl⟩; omega
  · intro h; exact ⟨j - (max 0 a).toNat, by omega, by omega⟩
/-- What the least number of a window is. -/
theorem wLo_iff {g : Nat → Int} {m : Nat} {a b v : Int} (hg : ∀ j, j < m → g j ≤ 255) (hne : ∃ j : Nat, a ≤ (j : Int) ∧ (j : Int) ≤ b ∧ j < m) : wLo g m a b = v ↔ (∀ j : Nat, a ≤ (j : Int) → (j : Int) ≤ b → j < m → v ≤ g j) ∧ ∃ j : Nat, a ≤ (j : Int) ∧ (j : Int) ≤ b ∧ j < m ∧ v = g j := by
  have low : ∀ j : Nat, a ≤ (j : Int) → (j : Int) ≤ b → j < m → wLo g m a b ≤ g j := fun j h1 h2 h3 => by
    obtain ⟨i, hi, rfl⟩ := (w_mem (m := m) (a := a) (b := b) (j := j)).2 ⟨h1, h2, h3⟩
    exact mn_le g _ _ i hi
  have att : ∃ j : Nat, a ≤ (j : Int) ∧ (j : Int) ≤ b ∧ j < m ∧ wLo g m a b = g j := by
    rcases mn_at g (wS a) (wN m a b) with h | ⟨i, hi, h⟩
    · obtain ⟨j, h1, h2, h3⟩ := hne
      have q1 := low j h1 h2 h3
      have q2 := hg j h3
      exact ⟨j, h1, h2, h3, by unfold wLo at q1 ⊢; omega⟩
    · obtain ⟨h1, h2, h3⟩ := (w_mem (m := m) (a := a) (b := b)).1 ⟨i, hi, rfl⟩
      exact ⟨_, h1, h2, h3, h⟩
  constructor
  · rintro rfl; exact ⟨low, att⟩
  · rintro ⟨h1, j, a1, a2, a3, rfl⟩
    obtain ⟨i, b1, b2, b3, e⟩ := att
    have := low j a1 a2 a3
    have := h1 i b1 b2 b3
    omega
theorem wHi_iff {g : Nat → Int} {m : Nat} {a b v : Int} (hg : ∀ j, j < m → 0 ≤ g j) (hne : ∃ j : Nat, a ≤ (j : Int) ∧ (j : Int) ≤ b ∧ j < m) : wHi g m a b = v ↔ (∀ j : Nat, a ≤ (j : Int) → (j : Int) ≤ b → j < m → g j ≤ v) ∧ ∃ j : Nat, a ≤ (j : Int) ∧ (j : Int) ≤ b ∧ j < m ∧ v = g j := by
  have low : ∀ j : Nat, a ≤ (j : Int) → (j : Int) ≤ b → j < m → g j ≤ wHi g m a b := fun j h1 h2 h3 => by
    obtain ⟨i, hi, rfl⟩ := (w_mem (m := m) (a := a) (b := b) (j := j)).2 ⟨h1, h2, h3⟩
    exact mx_le g _ _ i hi
  have att : ∃ j : Nat, a ≤ (j : Int) ∧ (j : Int) ≤ b ∧ j < m ∧ wHi g m a b = g j := by
    rcases mx_at g (wS a) (wN m a b) with h | ⟨i, hi, h⟩
    · obtain ⟨j, h1, h2, h3⟩ := hne
      have q1 := low j h1 h2 h3
      have q2 := hg j h3
      exact ⟨j, h1, h2, h3, by unfold wHi at q1 ⊢; omega⟩
    · obtain ⟨h1, h2, h3⟩ := (w_mem (m := m) (a := a) (b := b)).1 ⟨i, hi, rfl⟩
      exact ⟨_, h1, h2, h3, h⟩
  constructor
  · rintro rfl; exact ⟨low, att⟩
  · rintro ⟨h1, j, a1, a2, a3, rfl⟩
    obtain ⟨i, b1, b2, b3, e⟩ := att
    have := low j a1 a2 a3
    have := h1 i b1 b2 b3
    omega
theorem w_in {g : Nat → Int} {m : Nat} {a b : Int} (hg : ∀ j, j < m → 0 ≤ g j ∧ g j ≤ 255) : (0 ≤ wLo g m a b ∧ wLo g m a b ≤ 255) ∧ (0 ≤ wHi g m a b ∧ wHi g m a b ≤ 255) := by
  have h : ∀ j, j < wN m a b → 0 ≤ g (wS a + j) ∧ g (wS a + j) ≤ 255 := fun j hj => hg _ ((w_mem (m := m) (a := a) (b := b)).1 ⟨j, hj, rfl⟩).2.2
  exact ⟨mn_in h, mx_in h⟩
theorem w_le {g : Nat → Int} {m : Nat} {a b : Int} (hne : ∃ j : Nat, a ≤ (j : Int) ∧ (j : Int) ≤ b ∧ j < m) : wLo g m a b ≤ wHi g m a b := by
  obtain ⟨j, h⟩ := hne
  obtain ⟨i, hi, rfl⟩ := (w_mem (m := m) (a := a) (b := b) (j := j)).2 h
  have h1 := mn_le g (wS a) _ i hi
  have h2 := mx_le g (wS a) _ i hi
  unfold wLo wHi; omega
/-- How far a number is outside of bounds. -/
def offV (n lo hi : Int) : Int := max 0 (max (lo - n) (n - hi))
theorem off_in {n lo hi : Int} (h1 : 0 ≤ n ∧ n ≤ 255) (h2 : 0 ≤ lo ∧ lo ≤ 255) (h3 : 0 ≤ hi ∧ hi ≤ 255) : 0 ≤ offV n lo hi ∧ offV n lo hi ≤ 255 := by unfold offV; omega
/-- How far a feature is outside of the envelope at a place. -/
def offF (fb : Nat → P3) (m : Nat) (band : Int) (i : Nat) (p : P3) : Int :=
  offV p.1 (wLo (fun j => vOf false (fb j)) m ((i : Int) - band) ((i : Int) + band)) (wHi (fun j => vOf false (fb j)) m ((i : Int) - band) ((i : Int) + band)) +
  offV p.2.1 (wLo (fun j => vOf true (fb j)) m ((i : Int) - band) ((i : Int) + band)) (wHi (fun j => vOf true (fb j)) m ((i : Int) - band) ((i : Int) + band))
def outE (fa fb : Nat → P3) (m : Nat) (band : Int) : Nat → Int
  | 0 => 0
  | n + 1 => outE fa fb m band n + offF fb m band n (fa n)
/-- The cost of the first and of the last pair. -/
def endsE (na nb : Nat) (fa fb : Nat → P3) : Int := cst (fa 0) (fb 0) + if 1 < na ∨ 1 < nb then cst (fa (na - 1)) (fb (nb - 1)) else 0
/-- The greater one of both bounds. -/
def boundE (na nb : Nat) (fa fb : Nat → P3) (band : Int) : Int := max (outE fa fb nb band na) (endsE na nb fa fb)
end Go.Proofs.Ytkcfghbkcgommab.env

namespace Go.Proofs.Ytkcfghbkcgommab.env

open Go.ChangeShapes Go.WideShapes Go.ChangeAt Go.RowKit Go.Joins

open Go.Proofs.Ytkcfghbkcgommab.core Go.Proofs.Ytkcfghbkcgommab.rown Go.Proofs.Ytkcfghbkcgommab.stk Go.Proofs.Ytkcfghbkcgommab.boxed Go.Proofs.Ytkcfghbkcgommab.ft Go.Proofs.Ytkcfghbkcgommab.seq
set_option linter.unusedVariables false
set_option linter.unusedSimpArgs false
theorem maxE (a b : Int) (w : World) : Calls Try.prog 25 #[.int .i64 a, .int .i64 b] w fun e w' => e = .returned (.int .i64 (max a b)) ∧ w = w' := by
  by_cases h : b < a
  · have hd : decide (b < a) = true := decide_eq_true h
    have HA := Lib.hid (show a = max a b by omega)
    go_enter Try.func25, Try.ntmps25
    go_wp2
    go_ret
    exact ⟨by rw [← HA.out]; rfl, rfl⟩
  · have hd : decide (b < a) = false := decide_eq_false h
    have HA := Lib.hid (show b = max a b by omega)
    go_enter Try.func25, Try.ntmps25
    go_wp2
    go_ret
    exact ⟨by rw [← HA.out]; rfl, rfl⟩
set_option maxRecDepth 100000 in
set_option maxHeartbeats 4000000 in
theorem rangeS {c : Nat} (A : Option Addr) (m : Nat) (f : Nat → P3) (a b : Int) (ver : Bool) (w : World) (hm : m ≤ 1048576) (ha : a ≤ 1048576) (hp : PtsAt w A m f) :
    Calls Try.prog 60 #[.slice A m c, .int .i64 a, .int .i64 b, .bool ver] w fun e w' => e = .returned (.tuple #[.int .i64 (wLo (fun j => vOf ver (f j)) m a b), .int .i64 (wHi (fun j => vOf ver (f j)) m a b)]) ∧ Below w.heap.size w w' := by
  have HP := Lib.hid hp
  have HK := Lib.hid (show ∀ c, c < wN m a b ↔ ((((wS a + c : Nat)) : Int) ≤ b ∧ wS a + c < m) from fun c => by unfold wN wS; omega)
  have hS : ((wS a : Nat) : Int) = max 0 a := by unfold wS; omega
  have hS2 : wS a ≤ 1048576 := by omega
  have hlo : wLo (fun j => vOf ver (f j)) m a b = mnR (fun j => vOf ver (f j)) (wS a) (wN m a b) := rfl
  have hhi : wHi (fun j => vOf ver (f j)) m a b = mxR (fun j => vOf ver (f j)) (wS a) (wN m a b) := rfl
  rw [hlo, hhi]
  clear hp hlo hhi
  generalize wN m a b = K at *
  generalize wS a = S at *
  obtain ⟨lo, hlo⟩ : ∃ lo, mnR (fun j => vOf ver (f j)) S = lo := ⟨_, rfl⟩
  obtain ⟨hi, hhi⟩ : ∃ hi, mxR (fun j => vOf ver (f j)) S = hi := ⟨_, rfl⟩
  have HL := Lib.hid (show lo 0 = 255 ∧ ∀ c, lo (c + 1) = min (lo c) (vOf ver (f (S + c))) by rw [← hlo]; exact ⟨rfl, fun _ => rfl⟩)
  have HH := Lib.hid (show hi 0 = 0 ∧ ∀ c, hi (c + 1) = max (hi c) (vOf ver (f (S + c))) by rw [← hhi]; exact ⟨rfl, fun _ => rfl⟩)
  rw [hlo, hhi]
  clear hlo hhi
  have HM := Lib.hid (fun W => maxE 0 a W)
  rw [← hS] at HM
  clear hS
  go_enter Try.func60, Try.ntmps60
  go_wp2_with fail
  refine (HM.out _).mono ?_
  rintro e w1 ⟨rfl, rfl⟩
  go_wp2
  go_loopw [10, 11, 12] (fun l h j w' => ∃ (c J : Nat), c ≤ K ∧ J = S + c ∧ j = .int .i64 (J : Int) ∧ l = .int .i64 (lo c) ∧ h = .int .i64 (hi c) ∧ Hid (Below w.heap.size w w')) (fun _ _ j _ => S + K - (intOf j).toNat)
  case atStart => exact ⟨0, S, Nat.zero_le _, rfl, rfl, by rw [HL.out.1], by rw [HH.out.1], Lib.hid (Below.refl _ _)⟩
  case round =>
    obtain ⟨k, J, hk, hJ, rfl, rfl, rfl, HB⟩ := hrel
    have HJ := Lib.hid hJ
    by_cases hlt : k < K
    · obtain ⟨q1, q2⟩ := (HK.out k).1 hlt
      rw [← hJ] at q1 q2
      have q3 : (J : Int) < (m : Int) := by omega
      have hm8 : J ≤ 1048576 := by omega
      obtain ⟨g, o, rfl, hg, p0, p1, p2⟩ := (HP.out.kept HB.out) J q2
      have e1 := HL.out.2 k
      have e2 := HH.out.2 k
      rw [← hJ] at e1 e2
      have hk1 : k + 1 ≤ K := by omega
      have hJ2 := Lib.hid (show J + 1 = S + (k + 1) by omega)
      have hms : S + K - (J + 1) < S + K - J := by omega
      clear hJ hlt hk
      cases ver
      · have hv : vOf false (f J) = (f J).1 := rfl
        rw [hv] at e1 e2
        have HE1 := Lib.hid e1
        have HE2 := Lib.hid e2
        clear hv e1 e2
        generalize (f J).1 = v at *
        go_wp2_with fail
        refine (minS _ _ _).mono ?_
        rintro e _ ⟨rfl, rfl⟩
        go_wp2_with fail
        refine (maxE _ _ _).mono ?_
        rintro e _ ⟨rfl, rfl⟩
        rw [← HE1.out, ← HE2.out]
        go_wp2
        go_roundw
        case rel => exact ⟨k + 1, J + 1, hk1, hJ2.out, by go_num, rfl, rfl, HB⟩
        case measure => simp [intOf]; omega
      · have hv : vOf true (f J) = (f J).2.1 := rfl
        rw [hv] at e1 e2
        have HE1 := Lib.hid e1
        have HE2 := Lib.hid e2
        clear hv e1 e2
        generalize (f J).2.1 = v at *
        go_wp2_with fail
        refine (minS _ _ _).mono ?_
        rintro e _ ⟨rfl, rfl⟩
        go_wp2_with fail
        refine (maxE _ _ _).mono ?_
        rintro e _ ⟨rfl, rfl⟩
        rw [← HE1.out, ← HE2.out]
        go_wp2
        go_roundw
        case rel => exact ⟨k + 1, J + 1, hk1, hJ2.out, by go_num, rfl, rfl, HB⟩
        case measure => simp [intOf]; omega
    · have hke := Lib.hid (show k = K by omega)
      have hn : ¬ ((J : Int) ≤ b ∧ J < m) := fun h => hlt ((HK.out k).2 (by rw [← hJ]; exact h))
      have hfin := Lib.hid (show lo k = lo K ∧ hi k = hi K by rw [hke.out]; exact ⟨rfl, rfl⟩)
      by_cases hb : (J : Int) ≤ b
      · have h2 : ¬ (J : Int) < (m : Int) := by omega
        clear hn hlt hJ
        go_wp2
        go_ret2
        exact ⟨by rw [← hfin.out.1, ← hfin.out.2]; rfl, HB.out⟩
      · clear hn hlt hJ
        go_wp2
        go_ret2
        exact ⟨by rw [← hfin.out.1, ← hfin.out.2]; rfl, HB.out⟩
end Go.Proofs.Ytkcfghbkcgommab.env

namespace Go.Proofs.Ytkcfghbkcgommab.env

open Go.ChangeShapes Go.WideShapes Go.ChangeAt Go.RowKit Go.Joins

open Go.Proofs.Ytkcfghbkcgommab.core Go.Proofs.Ytkcfghbkcgommab.rown Go.Proofs.Ytkcfghbkcgommab.stk Go.Proofs.Ytkcfghbkcgommab.boxed Go.Proofs.Ytkcfghbkcgommab.ft Go.Proofs.Ytkcfghbkcgommab.seq
set_option linter.unusedVariables false
set_option linter.unusedSimpArgs false
/-- The band fits both lengths. -/
def bandOk (n m band : Int) : Bool := decide ((0 ≤ band ∧ band ≤ 72) ∧ absv (n - m) ≤ band)
set_option maxHeartbeats 2000000 in
theorem offS (n lo hi : Int) (w : World) (h1 : 0 ≤ n ∧ n ≤ 255) (h2 : 0 ≤ lo ∧ lo ≤ 255) (h3 : 0 ≤ hi ∧ hi ≤ 255) :
    Calls Try.prog 61 #[.int .i64 n, .int .i64 lo, .int .i64 hi] w fun e w' => e = .returned (.int .i64 (offV n lo hi)) ∧ w = w' := by
  have E1 : IntKind.i64.wrap (lo - n) = lo - n := IntWalk.i64_in _ (by omega)
  have E3 : IntKind.i64.wrap (n - hi) = n - hi := IntWalk.i64_in _ (by omega)
  have E2 : wrap64 (lo - n) = lo - n := by rw [← IntWalk.i64_left]; exact E1
  have E4 : wrap64 (n - hi) = n - hi := by rw [← IntWalk.i64_left]; exact E3
  clear h1 h2 h3
  go_enter Try.func61, Try.ntmps61
  go_wp2_with fail
  refine (maxE _ _ _).mono ?_
  rintro e _ ⟨rfl, rfl⟩
  go_wp2_with fail
  refine (maxE _ _ _).mono ?_
  rintro e _ ⟨rfl, rfl⟩
  go_wp2
  go_ret
  exact ⟨rfl, rfl⟩
end Go.Proofs.Ytkcfghbkcgommab.env

namespace Go.Proofs.Ytkcfghbkcgommab.env

open Go.ChangeShapes Go.WideShapes Go.ChangeAt Go.RowKit Go.Joins

open Go.Proofs.Ytkcfghbkcgommab.core Go.Proofs.Ytkcfghbkcgommab.rown Go.Proofs.Ytkcfghbkcgommab.stk Go.Proofs.Ytkcfghbkcgommab.boxed Go.Proofs.Ytkcfghbkcgommab.ft Go.Proofs.Ytkcfghbkcgommab.seq
set_option linter.unusedVariables false
set_option linter.unusedSimpArgs false
/-- A list of numbers. -/
def NumAt (w : World) (A : Option Addr) (n : Nat) (g : Nat → Int) : Prop :=
  ∀ i, i < n → ∃ b o : Nat, A = some ⟨b, o, none⟩ ∧ b < w.heap.size ∧ w.cell? ⟨b, o + i, none⟩ = some (.int .i64 (g i))
theorem NumAt.kept {w w' : World} {A : Option Addr} {n : Nat} {g : Nat → Int} (h : NumAt w A n g) (hb : Below w.heap.size w w') : NumAt w' A n g := fun i hi => by
  obtain ⟨b, o, e, h1, h2⟩ := h i hi
  exact ⟨b, o, e, Nat.lt_of_lt_of_le h1 hb.size, (hb.cell (p := ⟨b, o + i, none⟩) h1).trans h2⟩
/-- Low and high numbers are bounds. -/
noncomputable def bndOk (n m : Nat) (lo hi : Nat → Int) : Bool := @decide (n = m ∧ (1 ≤ n ∧ n ≤ 72) ∧ ∀ i, i < n → (0 ≤ lo i ∧ lo i ≤ hi i) ∧ hi i ≤ 255) (Classical.propDecidable _)
theorem bnd_true {n m : Nat} {lo hi : Nat → Int} (h : n = m ∧ (1 ≤ n ∧ n ≤ 72) ∧ ∀ i, i < n → (0 ≤ lo i ∧ lo i ≤ hi i) ∧ hi i ≤ 255) : bndOk n m lo hi = true := by
  unfold bndOk; exact @decide_eq_true _ (Classical.propDecidable _) h
theorem bnd_of {n m : Nat} {lo hi : Nat → Int} (h : bndOk n m lo hi = true) : n = m ∧ (1 ≤ n ∧ n ≤ 72) ∧ ∀ i, i < n → (0 ≤ lo i ∧ lo i ≤ hi i) ∧ hi i ≤ 255 := by
  unfold bndOk at h; exact @of_decide_eq_true _ (Classical.propDecidable _) h
theorem bnd_no {n m : Nat} {lo hi : Nat → Int} (h : ¬ (n = m ∧ (1 ≤ n ∧ n ≤ 72) ∧ ∀ i, i < n → (0 ≤ lo i ∧ lo i ≤ hi i) ∧ hi i ≤ 255)) : bndOk n m lo hi = false := by
  unfold bndOk; exact @decide_eq_false _ (Classical.propDecidable _) h
end Go.Proofs.Ytkcfghbkcgommab.env

namespace Go.Proofs.Ytkcfghbkcgommab.env

open Go.ChangeShapes Go.WideShapes Go.ChangeAt Go.RowKit Go.Joins

open Go.Proofs.Ytkcfghbkcgommab.core Go.Proofs.Ytkcfghbkcgommab.rown Go.Proofs.Ytkcfghbkcgommab.stk Go.Proofs.Ytkcfghbkcgommab.boxed Go.Proofs.Ytkcfghbkcgommab.ft Go.Proofs.Ytkcfghbkcgommab.seq
set_option linter.unusedVariables false
set_option linter.unusedSimpArgs false
/-- The four lists of an envelope: where they lie, how long they are, what room they have. -/
def envV (ea : Nat → Option Addr) (en ec : Nat → Nat) (k : Nat) : Value := .slice (ea k) (en k) (ec k)
/-- An envelope in block B. -/
structure EnvAt (w : World) (B : Nat) (ea : Nat → Option Addr) (en ec : Nat → Nat) (eg : Nat → Nat → Int) : Prop where
  lt : B < w.heap.size
  cells : ∀ k, k < 4 → w.cell? ⟨B, k, none⟩ = some (.slice (ea k) (en k) (ec k))
  nums : ∀ k, k < 4 → NumAt w (ea k) (en k) (eg k)
theorem EnvAt.kept {w w' : World} {B : Nat} {ea : Nat → Option Addr} {en ec : Nat → Nat} {eg : Nat → Nat → Int} (h : EnvAt w B ea en ec eg) (hb : Below w.heap.size w w') : EnvAt w' B ea en ec eg :=
  ⟨Nat.lt_of_lt_of_le h.lt hb.size, fun k hk => (hb.cell (p := ⟨B, k, none⟩) h.lt).trans (h.cells k hk), fun k hk => (h.nums k hk).kept hb⟩
noncomputable def okE (en : Nat → Nat) (eg : Nat → Nat → Int) : Bool := bndOk (en 0) (en 1) (eg 0) (eg 1) && bndOk (en 2) (en 3) (eg 2) (eg 3) && decide (en 0 = en 2)
/-- A struct of four lists in a block of its own. -/
theorem env_box {w : World} {ea : Nat → Option Addr} {en ec : Nat → Nat} {eg : Nat → Nat → Int} (h : ∀ k, k < 4 → NumAt w (ea k) (en k) (eg k)) :
    EnvAt (w.alloc (.cells #[.slice (ea 0) (en 0) (ec 0), .slice (ea 1) (en 1) (ec 1), .slice (ea 2) (en 2) (ec 2), .slice (ea 3) (en 3) (ec 3)] 77)) w.heap.size ea en ec eg := by
  have K := heap_alloc_new w (.cells #[.slice (ea 0) (en 0) (ec 0), .slice (ea 1) (en 1) (ec 1), .slice (ea 2) (en 2) (ec 2), .slice (ea 3) (en 3) (ec 3)] 77)
  refine ⟨block_size K, fun k hk => ?_, fun k hk => (h k hk).kept (below_alloc1 _ _)⟩
  rw [cell_of_block K]
  have : k = 0 ∨ k = 1 ∨ k = 2 ∨ k = 3 := by omega
  rcases this with rfl | rfl | rfl | rfl <;> rfl
end Go.Proofs.Ytkcfghbkcgommab.env

namespace Go.Proofs.Ytkcfghbkcgommab.env

open Go.ChangeShapes Go.WideShapes Go.ChangeAt Go.RowKit Go.Joins

open Go.Proofs.Ytkcfghbkcgommab.core Go.Proofs.Ytkcfghbkcgommab.rown Go.Proofs.Ytkcfghbkcgommab.stk Go.Proofs.Ytkcfghbkcgommab.boxed Go.Proofs.Ytkcfghbkcgommab.ft Go.Proofs.Ytkcfghbkcgommab.seq
set_option linter.unusedVariables false
set_option linter.unusedSimpArgs false
def offG (fa : Nat → P3) (eg : Nat → Nat → Int) (i : Nat) : Int := offV (fa i).1 (eg 0 i) (eg 1 i) + offV (fa i).2.1 (eg 2 i) (eg 3 i)
def outG (fa : Nat → P3) (eg : Nat → Nat → Int) : Nat → Int
  | 0 => 0
  | n + 1 => outG fa eg n + offG fa eg n
theorem okE_of {en : Nat → Nat} {eg : Nat → Nat → Int} (h : okE en eg = true) : (1 ≤ en 0 ∧ en 0 ≤ 72) ∧ (en 1 = en 0 ∧ en 2 = en 0 ∧ en 3 = en 0) ∧ ∀ i, i < en 0 → (0 ≤ eg 0 i ∧ eg 0 i ≤ eg 1 i ∧ eg 1 i ≤ 255) ∧ (0 ≤ eg 2 i ∧ eg 2 i ≤ eg 3 i ∧ eg 3 i ≤ 255) := by
  unfold okE at h
  rw [Bool.and_eq_true, Bool.and_eq_true] at h
  obtain ⟨⟨h1, h2⟩, h3⟩ := h
  have h3 := of_decide_eq_true h3
  obtain ⟨e1, r1, q1⟩ := bnd_of h1
  obtain ⟨e2, r2, q2⟩ := bnd_of h2
  refine ⟨r1, ⟨e1.symm, h3.symm, by omega⟩, fun i hi => ?_⟩
  have a := q1 i hi
  have b := q2 i (by omega)
  omega
theorem out_in {fa : Nat → P3} {eg : Nat → Nat → Int} : ∀ {n}, (∀ i, i < n → 0 ≤ offG fa eg i ∧ offG fa eg i ≤ 510) → 0 ≤ outG fa eg n ∧ outG fa eg n ≤ 510 * (n : Int)
  | 0, _ => by unfold outG; omega
  | n + 1, h => by
    have h1 := out_in (n := n) fun i hi => h i (by omega)
    have h2 := h n (by omega)
    unfold outG; omega
set_option maxRecDepth 100000 in
set_option maxHeartbeats 8000000 in
theorem outsideS {ca : Nat} (A : Option Addr) (na : Nat) (fa : Nat → P3) (B : Nat) (ea : Nat → Option Addr) (en ec : Nat → Nat) (eg : Nat → Nat → Int) (w : World) (pa : PtsAt w A na fa) (he : EnvAt w B ea en ec eg) (va : okQ na fa = true) (ve : okE en eg = true) (hne : na = en 0) :
    Calls Try.prog 44 #[.slice A na ca, .pointer (some ⟨B, 0, none⟩)] w fun e w' => e = .returned (.int .i64 (outG fa eg na)) ∧ Below w.heap.size w w' := by
  obtain ⟨a1, a2, a3⟩ := okQ_of va
  obtain ⟨-, ⟨q1, q2, q3⟩, qr⟩ := okE_of ve
  have HPA := Lib.hid pa
  have HEN := Lib.hid he
  have HL := Lib.hid (show en 0 = na ∧ en 1 = na ∧ en 2 = na ∧ en 3 = na by omega)
  have HR := Lib.hid (show ∀ i, i < na → (0 ≤ eg 0 i ∧ eg 0 i ≤ eg 1 i ∧ eg 1 i ≤ 255) ∧ (0 ≤ eg 2 i ∧ eg 2 i ≤ eg 3 i ∧ eg 3 i ≤ 255) from fun i hi => qr i (by omega))
  have HI := Lib.hid (fun i (hi : i < na) => inF_of (a3 i hi))
  have hone : ∀ i, i < na → 0 ≤ offG fa eg i ∧ offG fa eg i ≤ 510 := fun i hi => by
    have x1 := HI.out i hi
    have x2 := HR.out i hi
    have y1 := off_in (n := (fa i).1) (lo := eg 0 i) (hi := eg 1 i) (by omega) (by omega) (by omega)
    have y2 := off_in (n := (fa i).2.1) (lo := eg 2 i) (hi := eg 3 i) (by omega) (by omega) (by omega)
    unfold offG; omega
  have HIN := Lib.hid (fun n (hn : n ≤ na) => out_in (n := n) fun i hi => hone i (by omega))
  have HON := Lib.hid hone
  obtain ⟨G, hG⟩ : ∃ G, outG fa eg = G := ⟨_, rfl⟩
  have HG := Lib.hid (show G 0 = 0 ∧ ∀ x, G (x + 1) = G x + offG fa eg x by rw [← hG]; exact ⟨rfl, fun _ => rfl⟩)
  rw [hG] at HIN ⊢
  have hmx : Try.prog.follows .mixedOrders = true := by kernel_rfl
  clear pa he va ve hne a3 q1 q2 q3 qr hone hG
  go_enter Try.func44, Try.ntmps44
  go_wp2
  go_loopw [5, 6] (fun s i w' => ∃ x : Nat, x ≤ na ∧ i = .int .i64 (x : Int) ∧ s = .int .i64 (G x) ∧ Hid (Below w.heap.size w w')) (fun _ i _ => na - (intOf i).toNat)
  case atStart => exact ⟨0, Nat.zero_le _, rfl, by rw [HG.out.1], Lib.hid (Below.refl _ _)⟩
  case round =>
    obtain ⟨x, hx, rfl, rfl, HB⟩ := hrel
    by_cases hlt : x < na
    · have hli : (x : Int) < (na : Int) := by omega
      obtain ⟨g1, o1, rfl, hg1, x0, x1, -⟩ := (HPA.out.kept HB.out) x hlt
      have E := HEN.out.kept HB.out
      obtain ⟨l0, l1, l2, l3⟩ := HL.out
      have hBl := E.lt
      have c0 := E.cells 0 (by omega)
      have c1 := E.cells 1 (by omega)
      have c2 := E.cells 2 (by omega)
      have c3 := E.cells 3 (by omega)
      obtain ⟨b0, o0, e0, hb0, v0⟩ := E.nums 0 (by omega) x (by omega)
      obtain ⟨b1, p1, e1, hb1, v1⟩ := E.nums 1 (by omega) x (by omega)
      obtain ⟨b2, p2, e2, hb2, v2⟩ := E.nums 2 (by omega) x (by omega)
      obtain ⟨b3, p3, e3, hb3, v3⟩ := E.nums 3 (by omega) x (by omega)
      rw [e0, l0] at c0
      rw [e1, l1] at c1
      rw [e2, l2] at c2
      rw [e3, l3] at c3
      clear E e0 e1 e2 e3 l0 l1 l2 l3
      have i1 := HI.out x hlt
      have i2 := HR.out x hlt
      have i3 := HIN.out x (by omega)
      have i4 := HIN.out (x + 1) (by omega)
      have HN := Lib.hid (show G x + (offV (fa x).1 (eg 0 x) (eg 1 x) + offV (fa x).2.1 (eg 2 x) (eg 3 x)) = G (x + 1) by rw [HG.out.2 x]; rfl)
      have y1 := off_in (n := (fa x).1) (lo := eg 0 x) (hi := eg 1 x) (by omega) (by omega) (by omega)
      have y2 := off_in (n := (fa x).2.1) (lo := eg 2 x) (hi := eg 3 x) (by omega) (by omega) (by omega)
      have H1 := Lib.hid (fun W => offS (fa x).1 (eg 0 x) (eg 1 x) W (by omega) (by omega) (by omega))
      have H2 := Lib.hid (fun W => offS (fa x).2.1 (eg 2 x) (eg 3 x) W (by omega) (by omega) (by omega))
      obtain ⟨S, hS⟩ : ∃ S, G x = S := ⟨_, rfl⟩
      obtain ⟨S2, hS2⟩ : ∃ S, G (x + 1) = S := ⟨_, rfl⟩
      obtain ⟨O1, hO1⟩ : ∃ O, offV (fa x).1 (eg 0 x) (eg 1 x) = O := ⟨_, rfl⟩
      obtain ⟨O2, hO2⟩ : ∃ O, offV (fa x).2.1 (eg 2 x) (eg 3 x) = O := ⟨_, rfl⟩
      rw [hS] at i3 HN ⊢
      rw [hS2] at i4 HN
      rw [hO1] at HN H1 y1
      rw [hO2] at HN H2 y2
      have E1 : IntKind.i64.wrap (O1 + O2) = O1 + O2 := IntWalk.i64_in _ (by omega)
      have E2 : IntKind.i64.wrap (S + (O1 + O2)) = S2 := by rw [HN.out]; exact IntWalk.i64_in _ (by omega)
      have HS2 := Lib.hid hS2
      clear hS hS2 hO1 hO2 HN i1 i2 i3 i4 y1 y2
      have F1 : wrap64 (O1 + O2) = O1 + O2 := by rw [← IntWalk.i64_left]; exact E1
      have F2 : wrap64 (S + (O1 + O2)) = S2 := by rw [← IntWalk.i64_left]; exact E2
      have hms : na - (x + 1) < na - x := by omega
      have hx1 : x + 1 ≤ na := by omega
      generalize (fa x).1 = X at *
      generalize (fa x).2.1 = Y at *
      generalize eg 0 x = L0 at *
      generalize eg 1 x = L1 at *
      generalize eg 2 x = L2 at *
      generalize eg 3 x = L3 at *
      have A0 := cell_kept (a := ⟨g1, o1 + x * 3, none⟩) hg1 x0
      have A1 := cell_kept (a := ⟨g1, o1 + x * 3 + 1, none⟩) hg1 x1
      have C0 := cell_kept (a := ⟨B, 0, none⟩) hBl c0
      have C1 := cell_kept (a := ⟨B, 1, none⟩) hBl c1
      have C2 := cell_kept (a := ⟨B, 2, none⟩) hBl c2
      have C3 := cell_kept (a := ⟨B, 3, none⟩) hBl c3
      have D0 := cell_kept (a := ⟨b0, o0 + x, none⟩) hb0 v0
      have D1 := cell_kept (a := ⟨b1, p1 + x, none⟩) hb1 v1
      have D2 := cell_kept (a := ⟨b2, p2 + x, none⟩) hb2 v2
      have D3 := cell_kept (a := ⟨b3, p3 + x, none⟩) hb3 v3
      clear x0 x1 c0 c1 c2 c3 v0 v1 v2 v3 hg1 hBl hb0 hb1 hb2 hb3
      go_wp2
      refine wp_region_quiet_kept (by assumption) (by kernel_rfl) ?_
      repeat (first | go_big_quiet_step (((go_at_call 61; first | with_reducible exact Calls.kept_of (still_b (H1.out _)) | with_reducible exact Calls.kept_of (still_b (H2.out _))))) | quiet_step (((go_at_call 61; first | with_reducible exact Calls.kept_of (still_b (H1.out _)) | with_reducible exact Calls.kept_of (still_b (H2.out _))))))
      refine wpQuiet_nil ?_
      intro w4 hw'
      have hB : Below wr.heap.size wr w4 := by obtain ⟨⟨wk, hb0⟩, hw''⟩ := hw'; rw [hw'']; exact hb0
      have HB4 := Lib.hid (HB.out.trans (hB.mono HB.out.size))
      clear hw' hB A0 A1 C0 C1 C2 C3 D0 D1 D2 D3 E1 E2 F1 F2 H1 H2
      go_wp2
      go_roundw
      case rel => exact ⟨x + 1, hx1, by go_num, by rw [HS2.out], HB4⟩
      case measure => simp [intOf]; omega
    · have hxe := Lib.hid (show x = na by omega)
      have hxn : ¬ (x : Int) < (na : Int) := by omega
      have HGX := Lib.hid (show G x = G na by rw [hxe.out])
      clear hlt
      go_wp2
      go_ret
      exact ⟨by rw [← HGX.out]; rfl, HB.out⟩
/-- The code and the answer. -/
noncomputable def outC (na : Nat) (fa : Nat → P3) (en : Nat → Nat) (eg : Nat → Nat → Int) : Int := if okQ na fa = true ∧ okE en eg = true then (if na = en 0 then 0 else 2) else 1
noncomputable def outR (na : Nat) (fa : Nat → P3) (en : Nat → Nat) (eg : Nat → Nat → Int) : Int := if outC na fa en eg = 0 then outG fa eg na else 0
theorem outC_of {na : Nat} {fa : Nat → P3} {en : Nat → Nat} {eg : Nat → Nat → Int} (h : outC na fa en eg = 0) : okQ na fa = true ∧ okE en eg = true ∧ na = en 0 := by
  unfold outC at h
  split at h
  · rename_i h1
    split at h
    · rename_i h2; exact ⟨h1.1, h1.2, h2⟩
    · cases h
  · cases h
end Go.Proofs.Ytkcfghbkcgommab.env
