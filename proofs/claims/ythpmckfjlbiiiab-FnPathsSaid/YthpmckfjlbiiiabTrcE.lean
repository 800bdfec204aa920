/-
  Proved: rows by their first one; a new row of one pair; what a step of the traced path is (plain lemmas).
  Conditions: none.
-/
import Derived.Test.YthpmckfjlbiiiabTrcD
namespace Go.Proofs.Ythpmckfjlbiiiab.tab
open Go.ChangeShapes Go.WideShapes Go.ChangeAt Go.RowKit Go.Joins
open Go.Proofs.Ythpmckfjlbiiiab.core Go.Proofs.Ythpmckfjlbiiiab.rown Go.Proofs.Ythpmckfjlbiiiab.stk Go.Proofs.Ythpmckfjlbiiiab.boxed Go.Proofs.Ythpmckfjlbiiiab.ft Go.Proofs.Ythpmckfjlbiiiab.seq
set_option linter.unusedVariables false
set_option linter.unusedSimpArgs false
theorem rws_cons (r : Nat → List Value) : ∀ n, rws r (n + 1) = r 0 ++ rws (fun x => r (x + 1)) n
  | 0 => by simp [rws]
  | n + 1 => by
    rw [rws_succ, rws_cons r n, rws_succ, List.append_assoc]
/-- The rows of a path that is traced back: the newest pair first. -/
def trow (p : Nat → Nat × Nat) (s x : Nat) : List Value := [.int .i64 ((p (s - x)).1 : Int), .int .i64 ((p (s - x)).2 : Int)]
theorem trow_len (p : Nat → Nat × Nat) (s : Nat) : ∀ x, (trow p s x).length = 2 := fun _ => rfl
theorem trow_next (p : Nat → Nat × Nat) (s : Nat) : rws (trow p (s + 1)) (s + 2) = [.int .i64 ((p (s + 1)).1 : Int), .int .i64 ((p (s + 1)).2 : Int)] ++ rws (trow p s) (s + 1) := by
  rw [rws_cons]
  congr 1
  exact rws_congr (s + 1) fun x hx => by unfold trow; rw [show s + 1 - (x + 1) = s - x by omega]
/-- A new list of one pair. -/
theorem pair_row {w : World} {base E : Nat} (x y : Value) (hb : base ≤ w.heap.size) : (w.alloc (.cells #[x, y] E)).ownsRow base E 2 (.slice (some ⟨w.heap.size, 0, none⟩) 1 1) 1 [x, y] :=
  ⟨rfl, .inr ⟨w.heap.size, 1, _, rfl, hb, heap_alloc_new _ _, Nat.le_refl _, by simp [maxLen], rfl, rfl⟩⟩
theorem prv_diag {fa fb : Nat → P3} {band : Int} {a b : Nat} (ha : a ≠ 0) (hb : b ≠ 0) (h : tab fa fb band (a - 1) (b - 1) = bef fa fb band a b) : prv fa fb band (a, b) = (a - 1, b - 1) := by
  unfold prv; rw [if_pos ⟨ha, hb, h⟩]
theorem prv_up {fa fb : Nat → P3} {band : Int} {a b : Nat} (ha : a ≠ 0) (hn : b = 0 ∨ tab fa fb band (a - 1) (b - 1) ≠ bef fa fb band a b) (h : tab fa fb band (a - 1) b = bef fa fb band a b) : prv fa fb band (a, b) = (a - 1, b) := by
  unfold prv; rw [if_neg (fun h' => hn.elim (fun e => h'.2.1 e) (fun e => e h'.2.2)), if_pos ⟨ha, h⟩]
theorem prv_left {fa fb : Nat → P3} {band : Int} {a b : Nat} (hn : a = 0 ∨ (tab fa fb band (a - 1) (b - 1) ≠ bef fa fb band a b ∧ tab fa fb band (a - 1) b ≠ bef fa fb band a b)) : prv fa fb band (a, b) = (a, b - 1) := by
  unfold prv; rw [if_neg (fun h' => hn.elim (fun e => h'.1 e) (fun e => e.1 h'.2.2)), if_neg (fun h' => hn.elim (fun e => h'.1 e) (fun e => e.2 h'.2))]
end Go.Proofs.Ythpmckfjlbiiiab.tab
