/-
  Proved: lists of numbers, of texts and of lists of numbers that are read out of memory; rows of one number.
  Conditions: none.
-/
import Derived.Test.YtimkochgnjggdaaRowN
import Derived.Test.YtimkochgnjggdaaFt
namespace Go.Proofs.Ytimkochgnjggdaa.one1
open Go.ChangeShapes Go.WideShapes Go.ChangeAt Go.RowKit Go.Joins
open Go.Proofs.Ytimkochgnjggdaa.core Go.Proofs.Ytimkochgnjggdaa.rown Go.Proofs.Ytimkochgnjggdaa.stk Go.Proofs.Ytimkochgnjggdaa.boxed Go.Proofs.Ytimkochgnjggdaa.ft
set_option linter.unusedVariables false
set_option linter.unusedSimpArgs false
/-- A list of numbers. -/
def NumAt (w : World) (A : Option Addr) (n : Nat) (g : Nat → Int) : Prop :=
  ∀ i, i < n → ∃ b o : Nat, A = some ⟨b, o, none⟩ ∧ b < w.heap.size ∧ w.cell? ⟨b, o + i, none⟩ = some (.int .i64 (g i))
theorem NumAt.kept {w w' : World} {A : Option Addr} {n : Nat} {g : Nat → Int} (h : NumAt w A n g) (hb : Below w.heap.size w w') : NumAt w' A n g := fun i hi => by
  obtain ⟨b, o, e, h1, h2⟩ := h i hi
  exact ⟨b, o, e, Nat.lt_of_lt_of_le h1 hb.size, (hb.cell (p := ⟨b, o + i, none⟩) h1).trans h2⟩
/-- A list of texts. -/
def SsAt (w : World) (A : Option Addr) (n : Nat) (s : Nat → ByteArray) : Prop :=
  ∀ i, i < n → ∃ b o : Nat, A = some ⟨b, o, none⟩ ∧ b < w.heap.size ∧ w.cell? ⟨b, o + i, none⟩ = some (.string (s i))
theorem SsAt.kept {w w' : World} {A : Option Addr} {n : Nat} {s : Nat → ByteArray} (h : SsAt w A n s) (hb : Below w.heap.size w w') : SsAt w' A n s := fun i hi => by
  obtain ⟨b, o, e, h1, h2⟩ := h i hi
  exact ⟨b, o, e, Nat.lt_of_lt_of_le h1 hb.size, (hb.cell (p := ⟨b, o + i, none⟩) h1).trans h2⟩
/-- A list of lists of numbers. -/
def WsAt (w : World) (A : Option Addr) (n : Nat) (wn : Nat → Nat) (wf : Nat → Nat → Int) : Prop :=
  ∀ i, i < n → ∃ (b o : Nat) (Ai : Option Addr) (ci : Nat), A = some ⟨b, o, none⟩ ∧ b < w.heap.size ∧ w.cell? ⟨b, o + i, none⟩ = some (.slice Ai (wn i) ci) ∧ NumAt w Ai (wn i) (wf i)
theorem WsAt.kept {w w' : World} {A : Option Addr} {n : Nat} {wn : Nat → Nat} {wf : Nat → Nat → Int} (h : WsAt w A n wn wf) (hb : Below w.heap.size w w') : WsAt w' A n wn wf := fun i hi => by
  obtain ⟨b, o, Ai, ci, e, h1, h2, h3⟩ := h i hi
  exact ⟨b, o, Ai, ci, e, Nat.lt_of_lt_of_le h1 hb.size, (hb.cell (p := ⟨b, o + i, none⟩) h1).trans h2, h3.kept hb⟩
def one (F : Nat → Int) (i : Nat) : List Value := [.int .i64 (F i)]
theorem one_len (F : Nat → Int) : ∀ i, (one F i).length = 1 := fun i => rfl
theorem one_get (F : Nat → Int) : ∀ i j, j < 1 → (one F i)[j]? = some (.int .i64 (F i)) := fun i j hj => by
  obtain rfl : j = 0 := by omega
  rfl
theorem one_ext (F F' : Nat → Int) (n : Nat) (h : ∀ j, j < n → F j = F' j) : rws (one F) n = rws (one F') n := by
  induction n with
  | zero => rfl
  | succ n ih =>
    rw [rws_succ, rws_succ, ih fun j hj => h j (by omega)]
    unfold one
    rw [h n (by omega)]
theorem set1 (F F' : Nat → Int) (n d : Nat) (hd : d < n) (v : Int) (h : ∀ j, j < n → F' j = if j = d then v else F j) : (rws (one F) n).set d (.int .i64 v) = rws (one F') n := by
  have hl := rws_len (one_len F) n
  have hl2 := rws_len (one_len F') n
  apply List.ext_getElem?
  intro j
  rcases Nat.lt_or_ge j n with hj | hj
  · have e1 := rws_get (one_len F) j 0 (by omega) n hj
    have e2 := rws_get (one_len F') j 0 (by omega) n hj
    rw [Nat.mul_one, Nat.add_zero] at e1 e2
    rw [e2, List.getElem?_set, hl]
    by_cases e : d = j
    · subst e
      rw [if_pos rfl, if_pos (by omega)]
      unfold one
      rw [h d hj, if_pos rfl]
      rfl
    · rw [if_neg e, e1]
      unfold one
      rw [h j hj, if_neg (by omega)]
  · rw [List.getElem?_eq_none (by simp only [List.length_set]; omega), List.getElem?_eq_none (by omega)]
theorem infoI : (Try.prog.info? 2).map (fun i => (i.zero, i.size, i.bytes)) = some (some (.int .i64 0), 1, 8) := by kernel_rfl
theorem one_cell {w : World} {base n E g c : Nat} {F : Nat → Int} (h : w.ownsRow base E 1 (.slice (some ⟨g, 0, none⟩) n c) n (rws (one F) n)) {q : Nat} (hq : q < n) : w.cell? ⟨g, q, none⟩ = some (.int .i64 (F q)) := by
  have := row_cell h (one_len _) hq (show 0 < 1 by omega) rfl
  rw [Nat.mul_one, Nat.add_zero] at this
  exact this
theorem num_row {w : World} {base E n c : Nat} {A : Option Addr} {F : Nat → Int} (h : w.ownsRow base E 1 (.slice A n c) n (rws (one F) n)) : NumAt w A n F := fun i hi => by
  have h' := h
  rcases h with ⟨-, ⟨-, h0⟩ | ⟨g, cap, cur, e, -, -⟩⟩
  · omega
  · injection e with e1 e2 e3
    subst e1 e3
    exact ⟨g, 0, rfl, row_lt h', by rw [Nat.zero_add]; exact one_cell h' hi⟩
theorem own_sl {w : World} {base E k n : Nat} {v : Value} {row : Nat → List Value} (h : w.ownsRow base E k v n (rws row n)) (hk : 0 < k) : ∃ A c, v = .slice A n c := by
  obtain ⟨hl, h⟩ := h
  rcases h with ⟨rfl, e⟩ | ⟨g, cap, cur, rfl, _⟩
  · rw [e] at hl
    have hn : n = 0 := by
      rcases Nat.eq_zero_or_pos n with h' | h'
      · exact h'
      · have := Nat.mul_pos h' hk
        simp at hl
        omega
    subst hn
    exact ⟨_, _, rfl⟩
  · exact ⟨_, _, rfl⟩
def datN (n : Nat) (F : Nat → Int) : Dat := .sl n 1 fun i _ => .int (F i)
end Go.Proofs.Ytimkochgnjggdaa.one1
