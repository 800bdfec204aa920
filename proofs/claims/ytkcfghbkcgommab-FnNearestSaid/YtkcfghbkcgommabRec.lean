/-
  Proved: the contracts of the helper functions, said of a record's leaves together (contracts of callees of the exact laws).
  Conditions: as theirs.
-/
import Derived.Test.YtkcfghbkcgommabSz
import Derived.Test.YtkcfghbkcgommabTo
import Derived.Test.YtkcfghbkcgommabEq
import Derived.Test.YtkcfghbkcgommabMarkS
import Derived.Test.YtkcfghbkcgommabHeld
namespace Go.Proofs.Ytkcfghbkcgommab.core
open Go.ChangeShapes Go.WideShapes Go.ChangeAt Go.RowKit Go.Joins
set_option linter.unusedVariables false
set_option linter.unusedSimpArgs false

/-- The values vs 0 .. read as g 0 .. -/
def ReadsRec (W : World) (k : Nat) (vs : Nat → Value) (g : Nat → Dat) : Prop := ∀ j, j < k → Reads W (vs j) (g j)
/-- Besides, each owns its memory, in blocks of F of its own. -/
def OwnRec (W : World) (k : Nat) (vs : Nat → Value) (g : Nat → Dat) (F : Nat → Prop) : Prop :=
  ∃ fp : Nat → Nat → Prop, (∀ j, j < k → Own W (vs j) (g j) (fp j)) ∧ (∀ j x, j < k → fp j x → F x ∧ x < W.heap.size) ∧ ∀ i j x, i < k → j < k → fp i x → fp j x → i = j
section
variable {W W' : World} {k : Nat} {vs : Nat → Value} {g : Nat → Dat} {F F' : Nat → Prop}
theorem ReadsRec.kept (h : ReadsRec W k vs g) (hb : Below W.heap.size W W') : ReadsRec W' k vs g := fun j hj => (h j hj).kept hb
theorem OwnRec.reads (h : OwnRec W k vs g F) : ReadsRec W k vs g := fun j hj => by obtain ⟨fp, h1, _⟩ := h; exact (h1 j hj).reads
theorem OwnRec.only (h : OwnRec W k vs g F) (ho : OnlyF F' W W') (hd : ∀ x, F x → F' x → False) : OwnRec W' k vs g F := by
  obtain ⟨fp, h1, h2, h3⟩ := h
  exact ⟨fp, fun j hj => (h1 j hj).only ho fun x hx hx' => hd x (h2 j x hj hx).1 hx', fun j x hj hx => ⟨(h2 j x hj hx).1, Nat.lt_of_lt_of_le (h2 j x hj hx).2 ho.size⟩, h3⟩
theorem OwnRec.kept (h : OwnRec W k vs g F) (hb : Below W.heap.size W W') : OwnRec W' k vs g F := h.only (F' := fun _ => False) (OnlyF.of_below hb) fun _ _ h => h
theorem OwnRec.mono (h : OwnRec W k vs g F) (hs : ∀ x, F x → F' x) : OwnRec W k vs g F' := by
  obtain ⟨fp, h1, h2, h3⟩ := h
  exact ⟨fp, h1, fun j x hj hx => ⟨hs x (h2 j x hj hx).1, (h2 j x hj hx).2⟩, h3⟩
theorem OwnRec.iv (h : OwnRec W k vs g F) {lo hi : Nat} (hlo : ∀ x, F x → lo ≤ x) (hhi : W.heap.size ≤ hi) : OwnRec W k vs g (iv lo hi) := by
  obtain ⟨fp, h1, h2, h3⟩ := h
  exact ⟨fp, h1, fun j x hj hx => ⟨⟨hlo x (h2 j x hj hx).1, Nat.lt_of_lt_of_le (h2 j x hj hx).2 hhi⟩, (h2 j x hj hx).2⟩, h3⟩
end
def costRec (k : Nat) (g : Nat → Dat) : Nat := sumTo (fun j => cost (g j)) k
/-- Of a struct's leaves the lists alone are marked. -/
def cntS : Dat → Nat
  | .sl n k f => cnt (.sl n k f)
  | _ => 0
def markS (d : Dat) (K : Nat) : Dat := match d with
  | .sl n k f => mark mt (.sl n k f) K
  | d => d
def cntRec (k : Nat) (g : Nat → Dat) : Nat := sumTo (fun j => cntS (g j)) k
def markRec (g : Nat → Dat) (K : Nat) : Nat → Dat := fun j => markS (g j) (K + sumTo (fun i => cntS (g i)) j)
theorem Reads.one {W : World} {v : Value} {d : Dat} (h : Reads W v d) : v.oneCell' = true := by cases h <;> rfl
theorem readsRec_of {W : World} {k : Nat} {vs vs' : Nat → Value} {g : Nat → Dat} (h : ReadsRec W k vs g) (he : ∀ j, j < k → vs' j = vs j) : ReadsRec W k vs' g := fun j hj => by rw [he j hj]; exact h j hj

end Go.Proofs.Ytkcfghbkcgommab.core
