/-
  Proved: what the document's source draws as one sequence.
  Conditions: none.
-/
import Derived.Test.YthpmckfjlbiiiabDraw
namespace Go.Proofs.Ythpmckfjlbiiiab.src
open Go.ChangeShapes Go.WideShapes Go.ChangeAt Go.RowKit Go.Joins
open Go.Proofs.Ythpmckfjlbiiiab.core Go.Proofs.Ythpmckfjlbiiiab.rown Go.Proofs.Ythpmckfjlbiiiab.stk Go.Proofs.Ythpmckfjlbiiiab.boxed Go.Proofs.Ythpmckfjlbiiiab.ft Go.Proofs.Ythpmckfjlbiiiab.seq
set_option linter.unusedVariables false
set_option linter.unusedSimpArgs false
theorem BytesAt.more {w : World} {L L' : Nat} {A : Option Addr} {n : Nat} (h : BytesAt w L A n) (hl : L ≤ L') : BytesAt w L' A n := fun i hi => by
  obtain ⟨b, o, v, e, h1, h2, h3, h4⟩ := h i hi
  exact ⟨b, o, v, e, by omega, h2, h3, h4⟩
theorem own_cap {w : World} {base E k g n c : Nat} {xs : List Value} (h : w.ownsRow base E k (.slice (some ⟨g, 0, none⟩) n c) n xs) : n ≤ c := by
  obtain ⟨-, h⟩ := h
  rcases h with ⟨h, _⟩ | ⟨g', cap, cur, e, h1, h2, h3, h4⟩
  · cases h
  · cases e; exact h3
set_option maxRecDepth 100000 in
set_option maxHeartbeats 2000000 in
theorem feats_calls (A : Option Addr) (n c : Nat) (w : World) (hn : n ≤ 3000) (h : BytesAt w w.heap.size A n) :
    Calls Try.prog 32 #[.slice A n c] w fun e w' => ∃ (g C k : Nat) (f : Nat → P3), okQ k f = true ∧ k ≤ 9 ∧ e = .returned (.slice (some ⟨g, 0, none⟩) k C) ∧ w'.ownsRow w.heap.size 65 3 (.slice (some ⟨g, 0, none⟩) k C) k (rws (row3 f) k) ∧ Below w.heap.size w w' := by
  have H0 := Lib.hid (from_calls A n c w h)
  clear h
  obtain ⟨p9, hp9⟩ : ∃ p : Nat, p = 9 := ⟨_, rfl⟩
  go_enter Try.func32, Try.ntmps32
  go_wp2_with fail
  refine H0.out.mono ?_
  rintro e w1 ⟨rfl, hs, hb⟩
  have BB1 := Lib.hid hb
  have ha1 : w.heap.size < w1.heap.size := hs.lt
  have H1 := Lib.hid (draw_calls w.heap.size 0 9 A n c w1 (by omega) (by omega) hn (by omega) hs)
  clear hs hb H0
  go_wp2_with fail
  refine H1.out.mono ?_
  rintro e w2 ⟨g, C, k, f, k1, k2, k3, rfl, hA, hs, ho⟩
  have BB2 := Lib.hid (BB1.out.trans (ho.below (fun k hk => by rcases hk with e | e <;> omega) BB1.out.size))
  have HA := Lib.hid hA
  clear hA hs ho H1 BB1
  go_wp2
  go_ret
  exact ⟨g, C, k, f, okQ_true k1 (by omega) k3, k2, rfl, row_low HA.out (Nat.le_of_lt ha1), BB2.out⟩
end Go.Proofs.Ythpmckfjlbiiiab.src
