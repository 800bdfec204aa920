/-
  Proved: what the program's functions that make the first row of least costs, and a row of one cost, return.
  Conditions: the second list has at most 72 elements.
-/
import Derived.Test.YtkcfghbkcgommaaMul
import Derived.Test.YtkcfghbkcgommaaCostI
import Derived.Test.YtkcfghbkcgommaaPut
namespace Go.Proofs.Ytkcfghbkcgommaa.dp
open Go.ChangeShapes Go.WideShapes Go.ChangeAt Go.RowKit Go.Joins
open Go.Proofs.Ytkcfghbkcgommaa.core Go.Proofs.Ytkcfghbkcgommaa.rown Go.Proofs.Ytkcfghbkcgommaa.stk Go.Proofs.Ytkcfghbkcgommaa.boxed Go.Proofs.Ytkcfghbkcgommaa.ft Go.Proofs.Ytkcfghbkcgommaa.seq Go.Proofs.Ytkcfghbkcgommaa.tab Go.Proofs.Ytkcfghbkcgommaa.put3
set_option linter.unusedVariables false
set_option linter.unusedSimpArgs false
theorem ownsRow_base {w : World} {base base' E k n : Nat} {v : Value} {xs : List Value} (h : w.ownsRow base E k v n xs) (hb : base' ≤ base) : w.ownsRow base' E k v n xs := by
  obtain ⟨hl, h⟩ := h
  refine ⟨hl, ?_⟩
  rcases h with h | ⟨g, cap, cur, h1, h2, h3⟩
  · exact .inl h
  · exact .inr ⟨g, cap, cur, h1, Nat.le_trans hb h2, h3⟩
theorem base_le {w : World} {base E k n g c : Nat} {xs : List Value} (h : w.ownsRow base E k (.slice (some ⟨g, 0, none⟩) n c) n xs) : base ≤ g := (ownsRow_block h (g := g) rfl).1
/-- Two lists that are matched, and the band. -/
abbrev mtv (A B : Option Addr) (na nb ca cb bd : Nat) : Value := .agg #[.slice A na ca, .slice B nb cb, .int .i64 (bd : Int)]
abbrev mtc (A B : Option Addr) (na nb ca cb bd : Nat) : Obj := .cells #[.slice A na ca, .slice B nb cb, .int .i64 (bd : Int)] 147
/-- A row of n numbers of one's own. -/
abbrev rowO (w : World) (base g n : Nat) (F : Nat → Int) : Prop := w.ownsRow base 2 1 (.slice (some ⟨g, 0, none⟩) n n) n (rws (one F) n)
set_option maxRecDepth 100000 in
set_option maxHeartbeats 2000000 in
theorem barI (A B : Option Addr) (na nb ca cb bd : Nat) (w : World) (hb : nb ≤ 72) : Calls Try.prog 143 #[mtv A B na nb ca cb bd] w fun e w' => ∃ g, e = .returned (.slice (some ⟨g, 0, none⟩) (nb + 1) (nb + 1)) ∧ rowO w' w.heap.size g (nb + 1) (fun _ => bar) ∧ Below w.heap.size w w' := by
  have BA := Lib.hid (below_alloc2 w (mtc A B na nb ca cb bd) (.cells #[.int .i64 1099511627776] 2))
  have K1 := Lib.hid (show ((w.alloc (mtc A B na nb ca cb bd)).alloc (.cells #[.int .i64 1099511627776] 2)).cell? ⟨w.heap.size + 1, 0, none⟩ = some (.int .i64 bar) by
    have := heap_alloc_new (w.alloc (mtc A B na nb ca cb bd)) (.cells #[.int .i64 1099511627776] 2)
    have h : ((w.alloc (mtc A B na nb ca cb bd)).alloc (.cells #[.int .i64 1099511627776] 2)).heap[w.heap.size + 1]? = some (.cells #[.int .i64 1099511627776] 2 (0, 0)) := by simpa using this
    rw [cell_of_block h]; rfl)
  have HR := Lib.hid (fun W h => repeat_calls bar (w.heap.size + 1) (nb + 1) (by omega) (by omega) W h)
  go_enter Try.func143, Try.ntmps143
  go_wp2_with fail
  refine (HR.out _ K1.out).mono ?_
  rintro e w1 ⟨rfl, ho, hb1⟩
  have HO := Lib.hid ho
  have HB := Lib.hid hb1
  clear ho hb1
  go_wp2
  go_ret
  have hz : ((w.alloc (mtc A B na nb ca cb bd)).alloc (.cells #[.int .i64 1099511627776] 2)).heap.size = w.heap.size + 1 + 1 := by simp
  refine ⟨_, rfl, ?_, BA.out.trans (HB.out.mono BA.out.size)⟩
  have h := HO.out
  rw [hz] at h
  exact ownsRow_base h (by omega)
set_option maxRecDepth 100000 in
set_option maxHeartbeats 2000000 in
theorem startI (A B : Option Addr) (na nb ca cb bd : Nat) (w : World) (hb : nb ≤ 72) : Calls Try.prog 137 #[mtv A B na nb ca cb bd] w fun e w' => ∃ g, e = .returned (.slice (some ⟨g, 0, none⟩) (nb + 1) (nb + 1)) ∧ rowO w' w.heap.size g (nb + 1) st0 ∧ Below w.heap.size w w' := by
  have BA := Lib.hid (below_alloc1 w (mtc A B na nb ca cb bd))
  have HR := Lib.hid (fun W => barI A B na nb ca cb bd W hb)
  go_enter Try.func137, Try.ntmps137
  go_wp2_with fail
  refine (HR.out _).mono ?_
  rintro e w1 ⟨g, rfl, ho, hb1⟩
  have HO := Lib.hid ho
  have HB := Lib.hid (BA.out.trans (hb1.mono BA.out.size))
  have xf := free_row ho 0
  have xz := rown.row_lt ho
  have x0 := one_cell ho (show 0 < nb + 1 by omega)
  clear ho hb1
  go_wp2
  go_ret
  refine ⟨g, rfl, ?_, HB.out.setCell (Nat.le_trans (by simp) (base_le HO.out)) _⟩
  have h := ownsRow_base (own_set1 HO.out (.int .i64 0) (p := 0) (by rw [rws_len (one_len _)]; omega)) BA.out.size
  rw [set1 (fun _ => bar) st0 (nb + 1) 0 (by omega) 0 (fun j => rfl)] at h
  exact h
end Go.Proofs.Ytkcfghbkcgommaa.dp
