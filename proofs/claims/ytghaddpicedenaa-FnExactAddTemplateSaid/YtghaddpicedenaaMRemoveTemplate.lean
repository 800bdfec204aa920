/-
  Proved: both functions that remove a template return the same store, in memory of its own.
  Conditions: none.
-/
import Derived.Test.YtghaddpicedenaaRmv
namespace Go.Proofs.Ytghaddpicedenaa.wRemoveTemplate
open Go.ChangeShapes Go.WideShapes Go.ChangeAt Go.RowKit Go.Joins
open Go.Proofs.Ytghaddpicedenaa.core Go.Proofs.Ytghaddpicedenaa.rown Go.Proofs.Ytghaddpicedenaa.stk Go.Proofs.Ytghaddpicedenaa.boxed Go.Proofs.Ytghaddpicedenaa.ft Go.Proofs.Ytghaddpicedenaa.seq Go.Proofs.Ytghaddpicedenaa.sto Go.Proofs.Ytghaddpicedenaa.tmp Go.Proofs.Ytghaddpicedenaa.gro
set_option linter.unusedVariables false
set_option linter.unusedSimpArgs false
theorem room_of {W : World} {us : Nat → Value} {g : Nat → Dat} {A : Option Addr} {c : Nat} (h : ReadsRec W 2 us g) (ht : tyrStore g) (e : us 1 = .slice A (stN g) c) : stN g ≤ c := by
  obtain ⟨-, n, f, e1, -⟩ := ht
  have h1 := h 1 (by omega)
  have hs : stN g = n := by unfold stN; rw [e1]; rfl
  rw [e, e1, hs] at h1
  rw [hs]
  exact Reads.cap h1
theorem no_own (w : World) (lo : Nat) : OwnRec w 2 (fun q => if q = 0 then .int .i64 0 else .slice none 0 0) (sdat 0 0 (fun _ => ⟨#[]⟩) (fun _ => 0) (fun _ _ => (0, 0, 0))) (iv lo w.heap.size) :=
  (TD.nil w lo (fun _ => ⟨#[]⟩) (fun _ => 0) (fun _ => 0) (fun _ => 0) (fun _ _ => (0, 0, 0))).store (by unfold inI64; omega) (fun i hi => absurd hi (by omega)) (fun i a b hi => absurd hi (by omega)) (Nat.le_refl _)
theorem fin_no {K : FuncId} {args : Array Value} {W : World} {code : Int} (h : Calls Try.prog K args W (RmNo W code)) :
    Calls Try.prog K args W fun e W' => ∃ xs : Nat → Value, e = .returned (.tuple #[.agg #[xs 0, xs 1], .int .i64 code]) ∧ OwnRec W' 2 xs (sdat 0 0 (fun _ => ⟨#[]⟩) (fun _ => 0) (fun _ _ => (0, 0, 0))) (iv W.heap.size W'.heap.size) ∧ Below W.heap.size W W' :=
  h.mono fun e W' ⟨he, hb⟩ => ⟨_, he, no_own W' W.heap.size, hb⟩
theorem fin_yes {K : FuncId} {args : Array Value} {W : World} {band a : Int} {N : Nat} {lb : Nat → ByteArray} {ln : Nat → Nat} {lf : Nat → Nat → P3} (hb : inI64 band) (hs : ∀ i, i < N → (lb (kE a i)).size ≤ maxLen) (hf : ∀ i x y, i < N → x < ln (kE a i) → y < 3 → inI64 (f3 (lf (kE a i) x) y))
    (h : Calls Try.prog K args W (RmYes W band N a lb ln lf)) :
    Calls Try.prog K args W fun e W' => ∃ xs : Nat → Value, e = .returned (.tuple #[.agg #[xs 0, xs 1], .int .i64 0]) ∧ OwnRec W' 2 xs (sdat band N (fun i => lb (kE a i)) (fun i => ln (kE a i)) (fun i => lf (kE a i))) (iv W.heap.size W'.heap.size) ∧ Below W.heap.size W W' :=
  h.mono fun e W' ⟨D, C, gi, ci, he, htd, hbl⟩ => ⟨_, he, htd.store hb hs hf (Nat.le_refl _), hbl⟩
end Go.Proofs.Ytghaddpicedenaa.wRemoveTemplate
