/-
  Proved: the view of a list of labels with costs that comes in; such a list in memory of one's own.
  Conditions: none.
-/
import Derived.Test.YtofgdgdmmlgmnaaHyD
import Derived.Test.YtofgdgdmmlgmnaaRowN
import Derived.Test.YtofgdgdmmlgmnaaView
import Derived.Test.YtofgdgdmmlgmnaaFt
namespace Go.Proofs.Ytofgdgdmmlgmnaa.hyp
open Go.ChangeShapes Go.WideShapes Go.ChangeAt Go.RowKit Go.Joins
open Go.Proofs.Ytofgdgdmmlgmnaa.core Go.Proofs.Ytofgdgdmmlgmnaa.rown Go.Proofs.Ytofgdgdmmlgmnaa.ft Go.Proofs.Ytofgdgdmmlgmnaa.lab
set_option linter.unusedVariables false
set_option linter.unusedSimpArgs false
/-- The list's cells hold the labels and the costs. -/
def HyAt (w : World) (A : Option Addr) (n : Nat) (f : Nat → Hy) : Prop :=
  ∀ i, i < n → ∃ b o : Nat, A = some ⟨b, o, none⟩ ∧ b < w.heap.size ∧ w.cell? ⟨b, o + i * 2, none⟩ = some (.string (f i).1) ∧ w.cell? ⟨b, o + i * 2 + 1, none⟩ = some (.int .i64 (f i).2)
theorem HyAt.kept {w w' : World} {A : Option Addr} {n : Nat} {f : Nat → Hy} (h : HyAt w A n f) (hb : Below w.heap.size w w') : HyAt w' A n f := fun i hi => by
  obtain ⟨b, o, e, h1, h2, h3⟩ := h i hi
  exact ⟨b, o, e, Nat.lt_of_lt_of_le h1 hb.size, (hb.cell (p := ⟨b, o + i * 2, none⟩) h1).trans h2, (hb.cell (p := ⟨b, o + i * 2 + 1, none⟩) h1).trans h3⟩
/-- No label is too long, and no number is out of bounds. -/
structure HyL (n : Nat) (f : Nat → Hy) : Prop where
  hn : n ≤ 1048576
  s : ∀ i, i < n → (f i).1.size ≤ maxLen
  c : ∀ i, i < n → inI64 (f i).2
def hyN (g : Nat → Dat) : Nat := dLen (g 0)
def hyF (g : Nat → Dat) (i : Nat) : Hy := (dStr (dFun (g 0) i 0), dInt (dFun (g 0) i 1))
theorem hy_cost_at {n k : Nat} {f : Nat → Nat → Dat} {i j : Nat} (hi : i < n) (hj : j < k) : cost (f i j) ≤ cost (.sl n k f) := by
  have h1 := sumTo_lt (fun a => sumTo (fun j => cost (f a j)) k) hi
  have h2 := sumTo_lt (fun j => cost (f i j)) hj
  simp only [cost]
  omega
theorem hy_le_cost (n k : Nat) (f : Nat → Nat → Dat) : n ≤ cost (.sl n k f) := by
  simp only [cost]
  omega
theorem reads_hy {W : World} {us : Nat → Value} {g : Nat → Dat} (h : ReadsRec W 1 us g) (ht : tyrHypS g) (hq : costRec 1 g ≤ 1048576) :
    ∃ A c, us 0 = .slice A (hyN g) c ∧ hyN g ≤ c ∧ HyL (hyN g) (hyF g) ∧ HyAt W A (hyN g) (hyF g) := by
  obtain ⟨n, f, hg, hf⟩ := ht
  have h0 := h 0 (by omega)
  rw [hg] at h0
  obtain ⟨A, c, hv, hn, hR⟩ := h0.sl_inv
  have hcap : n ≤ c := by rw [hv] at h0; exact h0.cap
  have hT : tyHypS (.sl n 2 f) := ⟨n, f, rfl, hf⟩
  have e1 : hyN g = n := by simp [hyN, hg, dLen]
  have e2 : ∀ i, hyF g i = (dStr (f i 0), dInt (f i 1)) := fun i => by simp [hyF, hg, dFun]
  have hc := hy_le_cost n 2 f
  have hq' : cost (.sl n 2 f) ≤ 1048576 := by
    have e : costRec 1 g = cost (.sl n 2 f) := by simp [costRec, sumTo, hg]
    rw [← e]; exact hq
  refine ⟨A, c, by rw [hv, e1], by rw [e1]; exact hcap, ⟨by omega, fun i hi => ?_, fun i hi => ?_⟩, fun i hi => ?_⟩
  · rw [e2]
    obtain ⟨⟨s, e⟩, -⟩ := hf i (by omega)
    have h1 := hy_cost_at (f := f) (show i < n by omega) (show 0 < 2 by omega)
    show (dStr (f i 0)).size ≤ _
    rw [e] at h1 ⊢
    replace h1 : s.size ≤ cost (.sl n 2 f) := h1
    show s.size ≤ _
    unfold maxLen
    omega
  · rw [e2]
    obtain ⟨b, o, e, hb, h2⟩ := hR i (by omega)
    obtain ⟨u, hu, hr⟩ := h2 1 (by omega)
    obtain ⟨-, z, ez⟩ := hf i (by omega)
    rw [ez] at hr
    show inI64 (dInt (f i 1))
    rw [ez]
    exact hr.int_inv.2
  · rw [e2]
    obtain ⟨b, o, e, hb, ⟨c0, -⟩, ⟨c1, -⟩⟩ := viewHypS hR hT i (by omega)
    exact ⟨b, o, e, hb, c0, c1⟩
/-- A row of the list. -/
def hyR (f : Nat → Hy) (i : Nat) : List Value := [.string (f i).1, .int .i64 (f i).2]
theorem hyR_len (f : Nat → Hy) : ∀ i, (hyR f i).length = 2 := fun i => rfl
/-- The datum of such a list. -/
def datH (n : Nat) (f : Nat → Hy) : Nat → Dat := fun _ => .sl n 2 fun i j => if j = 0 then .str (f i).1 else .int (f i).2
theorem datH_ty (n : Nat) (f : Nat → Hy) : tyrHypS (datH n f) := ⟨n, _, rfl, fun i _ => ⟨⟨_, rfl⟩, ⟨_, rfl⟩⟩⟩
theorem datH_cnt (n : Nat) (f : Nat → Hy) : cntRec 1 (datH n f) ≤ n * 2 := by
  have e : ∀ i, sumTo (fun j => cnt (if j = 0 then Dat.str (f i).1 else .int (f i).2)) 2 = 2 := fun i => rfl
  have h1 : cntRec 1 (datH n f) = 0 + sumTo (fun i => sumTo (fun j => cnt (if j = 0 then Dat.str (f i).1 else .int (f i).2)) 2) n := rfl
  rw [h1, sumTo_congr (g' := fun _ => 2) fun i _ => e i, sumTo_const]
  omega
theorem own_hy {w : World} {base n E : Nat} {v : Value} {f : Nat → Hy} (h : w.ownsRow base E 2 v n (rws (hyR f) n)) (hs : ∀ i, i < n → (f i).1.size ≤ maxLen) (hc : ∀ i, i < n → inI64 (f i).2) :
    OwnRec w 1 (fun _ => v) (datH n f) (iv base w.heap.size) := by
  refine ownRec_one (g := datH n f) ?_ (Nat.le_refl _)
  obtain ⟨hn, h⟩ := h
  rcases h with ⟨rfl, rfl⟩ | ⟨g, cap, cur, rfl, h1, h2, h3, h4, h5, h6⟩
  · exact .nil _ _ _ _ _
  · have hlt := (Array.getElem?_eq_some_iff.1 h2).1
    refine .sl g n cap 2 E _ (fun i j => if j = 0 then .string (f i).1 else .int .i64 (f i).2) (fun _ _ _ => False) cur _ h2 ⟨h1, hlt⟩ ⟨Nat.le_trans h3 h4, h3⟩ ?_ ?_ (fun _ _ _ _ _ hx => hx.elim) (fun _ _ _ _ _ _ _ _ _ hx => hx.elim)
    · intro i j hi hj
      have e := rws_get (hyR_len f) i j hj n hi
      have hik : i * 2 + 2 ≤ n * 2 := by omega
      rw [← h6, List.getElem?_take, if_pos (by omega)] at e
      rw [show cur.toList[i * 2 + j]? = cur[i * 2 + j]? by simp] at e
      rw [e]
      rcases (by omega : j = 0 ∨ j = 1) with rfl | rfl <;> rfl
    · intro i j hi hj
      rcases (by omega : j = 0 ∨ j = 1) with rfl | rfl
      · exact .str _ _ (hs i hi)
      · exact .int _ _ (hc i hi)
/-- The end of a function that returns such a list. -/
theorem finH {K : FuncId} {args : Array Value} {W : World} {E n : Nat} {f : Nat → Hy} {T : Value → Value} (hs : ∀ i, i < n → (f i).1.size ≤ maxLen) (hc : ∀ i, i < n → inI64 (f i).2)
    (h : Calls Try.prog K args W fun e w' => ∃ v, e = .returned (T v) ∧ w'.ownsRow W.heap.size E 2 v n (rws (hyR f) n) ∧ Below W.heap.size W w') :
    Calls Try.prog K args W fun e w' => ∃ xs : Nat → Value, e = .returned (T (xs 0)) ∧ OwnRec w' 1 xs (datH n f) (iv W.heap.size w'.heap.size) ∧ Below W.heap.size W w' :=
  h.mono fun e w' ⟨v, he, ho, hb⟩ => ⟨fun _ => v, he, own_hy ho hs hc, hb⟩
end Go.Proofs.Ytofgdgdmmlgmnaa.hyp
