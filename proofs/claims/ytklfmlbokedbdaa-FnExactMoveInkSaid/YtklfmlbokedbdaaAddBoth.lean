/-
  Proved: both functions that add a stroke to ink give the same answer, in blocks of its own; what the law on AddStroke keeps beside the cells that it loads.
  Conditions: the ink and the stroke lie in rows of their own.
-/
import Derived.Test.YtklfmlbokedbdaaAddSpec2
import Derived.Test.YtklfmlbokedbdaaAddImpl2
namespace Go.Proofs.Ytklfmlbokedbdaa.owned
open Go.ChangeShapes Go.WideShapes Go.ChangeAt Go.RowKit Go.Joins
open Go.Proofs.Ytklfmlbokedbdaa.join Go.Proofs.Ytklfmlbokedbdaa.strokes Go.Proofs.Ytklfmlbokedbdaa.valid Go.Proofs.Ytklfmlbokedbdaa.inks Go.Proofs.Ytklfmlbokedbdaa.inkOk
open Go.Proofs.Ytklfmlbokedbdaa.count (vI_len)
set_option linter.unusedVariables false

/-- What both functions do: the same ink and the same code, in blocks of their own. -/
def Adds (f : Nat) (n m : Nat) (ink : List (List P3)) (pts : List P3) (res : List (List P3)) (code : Int) : Prop :=
  ∀ (G g : Nat) (W : World), G < W.heap.size → g < W.heap.size → RowsFrom 0 W G ink → Pts W g pts →
    Calls Try.prog f #[inkV G n, stroke g m] W fun e w' => ∃ A c, e = .returned (.tuple #[.agg #[.slice A res.length c], .int .i64 code]) ∧ OwnInk W.heap.size w'.heap.size w' A res.length (FI res) ∧ Below W.heap.size W w'
theorem adds_err {f n m : Nat} {ink : List (List P3)} {pts : List P3} {code : Int} (h : ∀ (G g : Nat) (W : World), G < W.heap.size → g < W.heap.size → RowsFrom 0 W G ink → Pts W g pts →
    Calls Try.prog f #[inkV G n, stroke g m] W fun e w' => e = .returned (.tuple #[.agg #[.slice none 0 0], .int .i64 code]) ∧ Below W.heap.size W w') : Adds f n m ink pts [] code :=
  fun G g W h1 h2 h3 h4 => (h G g W h1 h2 h3 h4).mono fun e w' ⟨he, hb⟩ => ⟨none, 0, he, .inl rfl, hb⟩
theorem adds_ok {f n m : Nat} {ink : List (List P3)} {pts : List P3} (hn : ink.length = n) (h : ∀ (G g : Nat) (W : World), G < W.heap.size → g < W.heap.size → RowsFrom 0 W G ink → Pts W g pts →
    Calls Try.prog f #[inkV G n, stroke g m] W fun e w' => ∃ A c, e = .returned (.tuple #[.agg #[.slice A (n + 1) c], .int .i64 0]) ∧ OwnInk W.heap.size w'.heap.size w' A (n + 1) (FI (ink ++ [pts])) ∧ Below W.heap.size W w') : Adds f n m ink pts (ink ++ [pts]) 0 := by
  have e : (ink ++ [pts]).length = n + 1 := by simp [hn]
  unfold Adds
  rw [e]
  exact h

theorem both_add (n m : Nat) (ink : List (List P3)) (pts : List P3) (hn : ink.length = n) (hcap : n ≤ 1048576) (hsm : ∀ q ∈ ink, q.length ≤ 1048576) (hm : pts.length = m) (hcm : m ≤ 1048576) :
    ∃ (res : List (List P3)) (code : Int), Hid (Adds 36 n m ink pts res code) ∧ Hid (Adds 37 n m ink pts res code) ∧ res.length ≤ 17 ∧ Hid (∀ q ∈ res, q.length ≤ 60) := by
  cases hv : vI ink with
  | false => exact ⟨[], 1, Lib.hid (adds_err fun G g W h1 h2 h3 h4 => specAdd_bad1 G n g m ink W hn hcap hsm h1 h3 hv), Lib.hid (adds_err fun G g W h1 h2 h3 h4 => implAdd_bad1 G n g m ink W hn hcap hsm h1 h3 hv), by simp, Lib.hid (by simp)⟩
  | true =>
    have h16 := (vI_out hv).1
    cases hs : vS pts with
    | false => exact ⟨[], 1, Lib.hid (adds_err fun G g W h1 h2 h3 h4 => specAdd_bad2 G n g m ink pts W hn hcap hsm hm hcm h1 h2 h3 h4 hv hs), Lib.hid (adds_err fun G g W h1 h2 h3 h4 => implAdd_bad2 G n g m ink pts W hn hcap hsm hm hcm h1 h2 h3 h4 hv hs), by simp, Lib.hid (by simp)⟩
    | true =>
      have hall : ∀ q ∈ ink ++ [pts], q.length ≤ 60 := by
        intro q hq
        rw [List.mem_append, List.mem_singleton] at hq
        rcases hq with hq | rfl
        · obtain ⟨i, hi⟩ := List.getElem?_of_mem hq
          exact (vI_len hv hi).2
        · exact (vS_pos hs).2
      by_cases hf : n = 16
      · subst hf
        exact ⟨[], 5, Lib.hid (adds_err fun G g W h1 h2 h3 h4 => specAdd_full G 16 g m ink pts W hn hcap hsm hm hcm h1 h2 h3 h4 hv hs (by omega)), Lib.hid (adds_err fun G g W h1 h2 h3 h4 => implAdd_full G g m ink pts W hn hsm hm hcm h1 h2 h3 h4 hv hs), by simp, Lib.hid (by simp)⟩
      · by_cases h0 : n = 0
        · subst h0
          exact ⟨ink ++ [pts], 0, Lib.hid (adds_ok hn fun G g W h1 h2 h3 h4 => specAdd_zero G g m ink pts W hn hcap hsm hm hcm h1 h2 h3 h4 hv hs), Lib.hid (adds_ok hn fun G g W h1 h2 h3 h4 => implAdd_zero G g m ink pts W hn hcap hsm hm hcm h1 h2 h3 h4 hv hs), by simp [hn], Lib.hid hall⟩
        · obtain ⟨j, rfl⟩ : ∃ j, n = j + 1 := ⟨n - 1, by omega⟩
          have hj : j + 1 < 16 := by omega
          by_cases hT : lastT (FI ink j) < firstT pts
          · exact ⟨ink ++ [pts], 0, Lib.hid (adds_ok hn fun G g W h1 h2 h3 h4 => specAdd_some j G g m ink pts W hn hcap hsm hm hcm h1 h2 h3 h4 hv hs hj (decide_eq_false (by omega))), Lib.hid (adds_ok hn fun G g W h1 h2 h3 h4 => implAdd_some j G g m ink pts W hn hcap hsm hm hcm h1 h2 h3 h4 hv hs hj (decide_eq_true hT)), by simp [hn]; omega, Lib.hid hall⟩
          · exact ⟨[], 6, Lib.hid (adds_err fun G g W h1 h2 h3 h4 => specAdd_state j G g m ink pts W hn hcap hsm hm hcm h1 h2 h3 h4 hv hs hj (by omega)), Lib.hid (adds_err fun G g W h1 h2 h3 h4 => implAdd_state j G g m ink pts W hn hcap hsm hm hcm h1 h2 h3 h4 hv hs hj (decide_eq_false hT)), by simp, Lib.hid (by simp)⟩

theorem pre_le {F : Nat → List P3} {n M : Nat} (h : ∀ i, i < n → (F i).length ≤ M) : pre F n ≤ n * M := by
  induction n with
  | zero => simp [pre]
  | succ n ih =>
    have h1 := ih fun i hi => h i (by omega)
    have h2 := h n (by omega)
    simp only [pre]
    rw [Nat.add_mul]
    omega
theorem FI_le {ink : List (List P3)} {M : Nat} (h : ∀ q ∈ ink, q.length ≤ M) (i : Nat) : (FI ink i).length ≤ M := by
  unfold FI
  cases e : ink[i]? with
  | none => simp
  | some q => exact h q (List.mem_of_getElem? e)

/-- Both arguments' own cells, and nothing that was there in W0 has turned. -/
abbrev S0 (z : Nat) (A B : Option Addr) (n cap m cb : Nat) (W0 W : World) : Prop :=
  W.cell? ⟨z, 0, none⟩ = some (.slice A n cap) ∧ W.cell? ⟨z + 1, 0, none⟩ = some (.slice B m cb) ∧ Below W0.heap.size W0 W
section
variable {z : Nat} {A B : Option Addr} {n cap m cb : Nat} {W0 W W' : World}
theorem S0_below (h : S0 z A B n cap m cb W0 W) : Below W0.heap.size W0 W := h.2.2
theorem S0_kept (hz : z + 1 < W0.heap.size) (hb : Below W.heap.size W W') (h : S0 z A B n cap m cb W0 W) : S0 z A B n cap m cb W0 W' := by
  obtain ⟨h0, h1, h2⟩ := h
  have := h2.size
  exact ⟨(hb.cell (p := ⟨z, 0, none⟩) (show z < W.heap.size by omega)).trans h0, (hb.cell (p := ⟨z + 1, 0, none⟩) (show z + 1 < W.heap.size by omega)).trans h1, h2.trans (hb.mono h2.size)⟩
theorem S0_set (hz : z + 1 < W0.heap.size) {K : Nat} {v : Value} (hK : W0.heap.size ≤ K) (h : S0 z A B n cap m cb W0 W) : S0 z A B n cap m cb W0 (W.setCell ⟨K, 0, none⟩ v) := by
  obtain ⟨h0, h1, h2⟩ := h
  refine ⟨?_, ?_, h2.setCell hK _⟩
  · rw [World.cell?_setCell_far W ⟨K, 0, none⟩ ⟨z, 0, none⟩ v (by simp only; omega)]; exact h0
  · rw [World.cell?_setCell_far W ⟨K, 0, none⟩ ⟨z + 1, 0, none⟩ v (by simp only; omega)]; exact h1
theorem S0_drew (h : S0 z A B n cap m cb W0 W) : S0 z A B n cap m cb W0 W.drew := ⟨h.1, h.2.1, h.2.2.drew⟩
end
theorem OwnInk.set' {lo hi : Nat} {w : World} {A : Option Addr} {n : Nat} {F : Nat → List P3} (h : OwnInk lo hi w A n F) {K i : Nat} (hK : K < lo ∨ hi ≤ K) (u : Value) : OwnInk lo hi (w.setCell ⟨K, i, none⟩ u) A n F :=
  h.only ((Only.refl K (K + 1) w).setCell (Nat.le_refl _) (by omega) u) (by omega)
end Go.Proofs.Ytklfmlbokedbdaa.owned
