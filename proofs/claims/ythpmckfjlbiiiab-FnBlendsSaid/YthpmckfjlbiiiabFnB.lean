/-
  Proved: small facts that the laws of chapter 9 share.
  Conditions: none.
-/
import Derived.Test.YthpmckfjlbiiiabTwo
import Derived.Test.YthpmckfjlbiiiabOpenB
namespace Go.Proofs.Ythpmckfjlbiiiab.fnB
open Go.ChangeShapes Go.WideShapes Go.ChangeAt Go.RowKit Go.Joins
open Go.Proofs.Ythpmckfjlbiiiab.core Go.Proofs.Ythpmckfjlbiiiab.rown Go.Proofs.Ythpmckfjlbiiiab.stk Go.Proofs.Ythpmckfjlbiiiab.boxed Go.Proofs.Ythpmckfjlbiiiab.ft Go.Proofs.Ythpmckfjlbiiiab.seq Go.Proofs.Ythpmckfjlbiiiab.src
set_option linter.unusedVariables false
set_option linter.unusedSimpArgs false
set_option maxHeartbeats 1000000 in
theorem long_calls (A D : Option Addr) (n c m d : Nat) (w : World) (hn : n ≤ maxLen) (hm : m ≤ maxLen) (r : Bool) (hr : r = true ↔ 3000 < n ∨ 3000 < m) :
    Calls Try.prog 9 #[.slice A n c, .slice D m d] w fun e w' => e = .returned (.bool r) ∧ w = w' := by
  unfold maxLen at hn hm
  by_cases h1 : 3000 < n
  · have hrt : r = true := hr.2 (.inl h1)
    subst hrt
    have d1 : decide ((3000 : Int) < (n : Int)) = true := decide_eq_true (by omega)
    clear hr
    go_enter Try.func9, Try.ntmps9
    go_wp2
    go_ret
    exact ⟨by simp, rfl⟩
  · have d1 : decide ((3000 : Int) < (n : Int)) = false := decide_eq_false (by omega)
    have hrt : r = decide ((3000 : Int) < (m : Int)) := by
      rw [Bool.eq_iff_iff, hr]
      simp
      omega
    have HT := Lib.hid hrt
    clear hr hrt
    go_enter Try.func9, Try.ntmps9
    go_wp2
    go_ret
    exact ⟨by rw [HT.out]; simp, rfl⟩
theorem slice_of {w : World} {base E k n : Nat} {v : Value} {xs : List Value} (h : w.ownsRow base E k v n xs) (hn : 0 < n) : ∃ g c, v = .slice (some ⟨g, 0, none⟩) n c := by
  obtain ⟨-, h⟩ := h
  rcases h with ⟨rfl, e⟩ | ⟨g, cap, cur, rfl, _⟩
  · simp_all
  · exact ⟨g, _, rfl⟩
end Go.Proofs.Ythpmckfjlbiiiab.fnB
