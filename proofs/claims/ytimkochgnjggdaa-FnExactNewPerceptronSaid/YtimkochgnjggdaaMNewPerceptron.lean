/-
  Proved: both functions that make a new perceptron return the same, in memory of its own.
  Conditions: none.
-/
import Derived.Test.YtimkochgnjggdaaNewP
import Derived.Test.YtimkochgnjggdaaPeV
namespace Go.Proofs.Ytimkochgnjggdaa.wNewPerceptron
open Go.ChangeShapes Go.WideShapes Go.ChangeAt Go.RowKit Go.Joins
open Go.Proofs.Ytimkochgnjggdaa.core Go.Proofs.Ytimkochgnjggdaa.rown Go.Proofs.Ytimkochgnjggdaa.one1 Go.Proofs.Ytimkochgnjggdaa.wts Go.Proofs.Ytimkochgnjggdaa.new Go.Proofs.Ytimkochgnjggdaa.per
set_option linter.unusedVariables false
set_option linter.unusedSimpArgs false
theorem no_own (w : World) (lo : Nat) : OwnRec w 2 (fun _ => .slice none 0 0) (pdat 0 0 (fun _ => ⟨#[]⟩) (fun _ => 0) (fun _ _ => 0)) (iv lo w.heap.size) :=
  ⟨fun _ _ => False, fun q hq => by
    rcases (by omega : q = 0 ∨ q = 1) with rfl | rfl
    · exact .nil _ _ _ _ _
    · exact .nil _ _ _ _ _, fun q x hq hx => hx.elim, fun i q x hi hq h1 h2 => h1.elim⟩
theorem fin_no {K : FuncId} {args : Array Value} {W : World} (h : Calls Try.prog K args W (NewN W)) :
    Calls Try.prog K args W fun e W' => ∃ xs : Nat → Value, e = .returned (.tuple #[.agg #[xs 0, xs 1], .int .i64 1]) ∧ OwnRec W' 2 xs (pdat 0 0 (fun _ => ⟨#[]⟩) (fun _ => 0) (fun _ _ => 0)) (iv W.heap.size W'.heap.size) ∧ Below W.heap.size W W' :=
  h.mono fun e W' ⟨he, hb⟩ => ⟨_, he, no_own W' W.heap.size, hb⟩
theorem reads_sr {W : World} {us : Nat → Value} {g : Nat → Dat} (h : ReadsRec W 1 us g) (ht : tyrStringS g) (hq : costRec 1 g ≤ 1048576) :
    ∃ A c, us 0 = .slice A (peN g) c ∧ peN g ≤ c ∧ peN g ≤ 1048576 ∧ (∀ i, i < peN g → (peS g i).size ≤ maxLen) ∧ SsAt W A (peN g) (peS g) := by
  have hq0 : cost (g 0) ≤ 1048576 := by
    have := sumTo_lt (fun j => cost (g j)) (show 0 < 1 by omega)
    have e : costRec 1 g = sumTo (fun j => cost (g j)) 1 := rfl
    omega
  obtain ⟨A, c, e0, h1, h2, h3, h4⟩ := reads_ss (h 0 (by omega)) ht hq0
  exact ⟨A, c, e0, h1, h2, fun i hi => Nat.le_trans (h3 i hi) (by unfold maxLen; omega), h4⟩
theorem meat (vs0 : Nat → Value) (g0 : Nat → Dat) (ht0 : tyrStringS g0) :
    costRec 1 g0 ≤ 1048576 → ∃ (R : Nat → Dat) (r1 : Int), tyrPerceptron R ∧ cntRec 2 R ≤ 100000000000 ∧ (∀ (W : World) (us0 : Nat → Value), ReadsRec W 1 us0 g0 → (∃ (A : Option Addr) (n c : Nat), us0 0 = .slice A n c ∧ n ≤ c) → Calls Try.prog 23 #[us0 0] W fun e W' => ∃ xs : Nat → Value, e = .returned (.tuple #[.agg #[xs 0, xs 1], .int .i64 r1]) ∧ OwnRec W' 2 xs R (iv W.heap.size W'.heap.size) ∧ Below W.heap.size W W') ∧ (∀ (W : World) (us0 : Nat → Value), ReadsRec W 1 us0 g0 → (∃ (A : Option Addr) (n c : Nat), us0 0 = .slice A n c ∧ n ≤ c) → Calls Try.prog 25 #[us0 0] W fun e W' => ∃ xs : Nat → Value, e = .returned (.tuple #[.agg #[xs 0, xs 1], .int .i64 r1]) ∧ OwnRec W' 2 xs R (iv W.heap.size W'.heap.size) ∧ Below W.heap.size W W') := by
  intro hq
  cases hv : labsB (peN g0) (peS g0) with
  | true =>
    have hn := (labs_iff.1 hv).1
    exact ⟨pdat (peN g0) (peN g0) (peS g0) (fun _ => 25) (fun _ _ => 0), 0, pdat_ty _ _ _ _ _, pdat_cnt _ _ hn.2 hn.2 (fun _ _ => Nat.le_refl _), fun W us h _ => by
        obtain ⟨A, c, e, hc, hn, hs, hp⟩ := reads_sr h ht0 hq
        rw [e]; exact newS_yes A _ _ W hs hp hc hv, fun W us h _ => by
        obtain ⟨A, c, e, hc, hn, hs, hp⟩ := reads_sr h ht0 hq
        rw [e]; exact newI_yes A _ _ W hs hp hc hv⟩
  | false =>
    exact ⟨pdat 0 0 (fun _ => ⟨#[]⟩) (fun _ => 0) (fun _ _ => 0), 1, pdat_ty _ _ _ _ _, pdat_cnt _ _ (by omega) (by omega) (fun i hi => absurd hi (by omega)), fun W us h _ => by
        obtain ⟨A, c, e, hc, hn, hs, hp⟩ := reads_sr h ht0 hq
        rw [e]; exact fin_no (newS_no A _ _ W hn hs hp hv), fun W us h _ => by
        obtain ⟨A, c, e, hc, hn, hs, hp⟩ := reads_sr h ht0 hq
        rw [e]; exact fin_no (newI_no A _ _ W hn hs hp hv)⟩
end Go.Proofs.Ytimkochgnjggdaa.wNewPerceptron
