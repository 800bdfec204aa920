/-
  Proved: what the document's search for all lists within a cost returns; what the document's function that copies numbers returns.
  Conditions: those of each theorem.
-/
import Derived.Test.YtghaddpicedenaaNearS
import Derived.Deep.Upon
namespace Go.Proofs.Ytghaddpicedenaa.env
open Go.ChangeShapes Go.WideShapes Go.ChangeAt Go.RowKit Go.Joins
open Go.Proofs.Ytghaddpicedenaa.core Go.Proofs.Ytghaddpicedenaa.rown Go.Proofs.Ytghaddpicedenaa.stk Go.Proofs.Ytghaddpicedenaa.boxed Go.Proofs.Ytghaddpicedenaa.ft Go.Proofs.Ytghaddpicedenaa.seq Go.Proofs.Ytghaddpicedenaa.tab
set_option linter.unusedVariables false
set_option linter.unusedSimpArgs false
/-- A list of numbers as values. -/
def vals (l : List Int) : List Value := l.map fun x => .int .i64 x
theorem vals_add (l : List Int) (x : Int) : vals (l ++ [x]) = vals l ++ [.int .i64 x] := by unfold vals; rw [List.map_append]; rfl
theorem vals_rws (l : List Int) : vals l = rws (one fun j => l.getD j 0) l.length := by
  have hl := rws_len (one_len fun j => l.getD j 0) l.length
  apply List.ext_getElem?
  intro j
  rcases Nat.lt_or_ge j l.length with h | h
  · have h2 := rws_get (one_len fun j => l.getD j 0) j 0 (by omega) l.length h
    rw [Nat.mul_one, Nat.add_zero] at h2
    rw [h2]
    unfold vals one
    simp [h]
  · rw [List.getElem?_eq_none (by unfold vals; simpa using h), List.getElem?_eq_none (by omega)]
/-- The lists within a limit so far. -/
def wst (na : Nat) (fa : Nat → P3) (ln : Nat → Nat) (lf : Nat → Nat → P3) (band limit : Int) : Nat → List Int
  | 0 => []
  | i + 1 => if takes na ln band i = true ∧ costL na fa ln lf band i ≤ limit then wst na fa ln lf band limit i ++ [(i : Int)] else wst na fa ln lf band limit i
theorem wst_le (na : Nat) (fa : Nat → P3) (ln : Nat → Nat) (lf : Nat → Nat → P3) (band limit : Int) : ∀ i, (wst na fa ln lf band limit i).length ≤ i
  | 0 => Nat.le_refl _
  | i + 1 => by
    have := wst_le na fa ln lf band limit i
    unfold wst
    split
    · rw [List.length_append]; simp; omega
    · omega
theorem infoJ : (Try.prog.info? 2).map (fun i => (i.zero, i.size, i.bytes)) = some (some (.int .i64 0), 1, 8) := by kernel_rfl
theorem one_newW {w : World} {a : Value} {E H : Nat} (h : w.heap.size = H) : ∀ j u, [a][j]? = some u → (w.alloc (.cells #[a] E)).cell? ((⟨H, 0, none⟩ : Addr).add j) = some u := by
  subst h
  exact new_cells (l := [a])
end Go.Proofs.Ytghaddpicedenaa.env

namespace Go.Proofs.Ytghaddpicedenaa.env

open Go.ChangeShapes Go.WideShapes Go.ChangeAt Go.RowKit Go.Joins

open Go.Proofs.Ytghaddpicedenaa.core Go.Proofs.Ytghaddpicedenaa.rown Go.Proofs.Ytghaddpicedenaa.stk Go.Proofs.Ytghaddpicedenaa.boxed Go.Proofs.Ytghaddpicedenaa.ft Go.Proofs.Ytghaddpicedenaa.seq Go.Proofs.Ytghaddpicedenaa.tab
set_option linter.unusedVariables false
set_option linter.unusedSimpArgs false
theorem run_none {P : Program} (w : World) (t ty e : TypeId) (i : TypeInfo) (ht : P.underlying t = some (.slice e)) (hi : P.info? e = some i) (ad : Addr) (n c : Nat) (hle : n ≤ c) (A : Option Addr) (d : Nat) :
    (Builtin.append_ #[t, t] ty #[.slice (some ad) n c, .slice A 0 d]).run P w = .ok (.slice (some ad) n c) w := by
  refine run_append_nothing w t t ty e i ht hi (some ad) n c hle (.slice A 0 d) ?_
  cases A with
  | none => exact Src.ofNil w ht d
  | some a => exact Src.ofSlice w ht a 0 d [] (by simp) (fun j u h => by simp at h) (fun u h => by cases h)
/-- Nothing is appended. -/
theorem wpList_append_none {P : Program} (w : World) {ops : Array Oper} {rest : List Oper} {o : Oper} {a : Act} {Q : Exit → Act → World → Prop} (hgd : o.guard = none) (s x : Operand) (t : TypeId)
    (ho : o.op = .call { callee := .builtin .append, args := #[s, x], argTypes := #[t, t] }) (e : TypeId) (i : TypeInfo) (ht : P.underlying t = some (.slice e)) (hi : P.info? e = some i)
    (ad : Addr) (n c : Nat) (hle : n ≤ c) (hs : a.eval s = .slice (some ad) n c) (A : Option Addr) (m d : Nat) (hm : m = 0) (hx : a.eval x = .slice A m d) (h : wpList P ops Q rest (a.put o.dst (.slice (some ad) n c)) w) : wpList P ops Q (o :: rest) a w :=
  wpList_plain hgd fun _ hK => by
    subst hm
    have hr := run_none (P := P) w t o.type e i ht hi ad n c hle A d
    unfold Oper.wp execOp
    simp only [ho, resolve, invoke, builtin, Sem.run_bind, Sem.run_pure, Result.andThen_ok, List.map_toArray, List.map_cons, List.map_nil, hs, hx, hr]
    exact hK _ _ h
theorem add_off (b o j : Nat) : (⟨b, o, none⟩ : Addr).add j = ⟨b, o + j, none⟩ := by unfold Addr.add; split <;> simp_all
theorem one_vals (g : Nat → Int) (n : Nat) : ∀ u ∈ rws (one g) n, u.oneCell' = true := by
  induction n with
  | zero => intro u hu; simp [rws] at hu
  | succ n ih =>
    intro u hu
    rw [rws_succ] at hu
    rcases List.mem_append.1 hu with h | h
    · exact ih u h
    · unfold one at h
      simp at h
      rw [h]; rfl
theorem num_news {w : World} {A : Addr} {n : Nat} {g : Nat → Int} (h : NumAt w (some A) n g) : ∀ j u, (rws (one g) n)[j]? = some u → w.cell? (A.add j) = some u := fun j u hu => by
  rcases Nat.lt_or_ge j n with hj | hj
  · obtain ⟨b, o, e, -, hc⟩ := h j hj
    cases e
    have e1 := rws_get (one_len g) j 0 (by omega) n hj
    rw [Nat.mul_one, Nat.add_zero] at e1
    rw [e1] at hu
    have : (⟨b, o, none⟩ : Addr).add j = ⟨b, o + j, none⟩ := add_off b o j
    rw [this, hc]
    exact hu
  · rw [List.getElem?_eq_none (by rw [rws_len (one_len g)]; omega)] at hu
    cases hu
end Go.Proofs.Ytghaddpicedenaa.env
