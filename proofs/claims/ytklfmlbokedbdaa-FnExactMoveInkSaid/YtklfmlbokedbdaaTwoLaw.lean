/-
  Proved: what the laws on functions of an ink and two numbers keep between their statements.
  Conditions: none.
-/
import Derived.Test.YtklfmlbokedbdaaCut
namespace Go.Proofs.Ytklfmlbokedbdaa.owned
open Go.ChangeShapes Go.WideShapes Go.ChangeAt Go.RowKit Go.Joins
open Go.Proofs.Ytklfmlbokedbdaa.join Go.Proofs.Ytklfmlbokedbdaa.strokes Go.Proofs.Ytklfmlbokedbdaa.valid Go.Proofs.Ytklfmlbokedbdaa.inks
set_option linter.unusedVariables false

theorem markInk_one {lo hi c : Nat} (A : Option Addr) (n : Nat) (F : Nat → List P3) (w : World) (hn : n ≤ 1048576) (hcap : 1 + 3 * pre F n ≤ 9000000000000000000) (hp : OwnInk lo hi w A n F) :
    Calls Try.prog 38 #[.agg #[.slice A n c], .int .i64 1] w fun e w' => e = .returned (.int .i64 ((1 + 3 * pre F n : Nat) : Int)) ∧ OwnInk lo hi w' A n (mI 1 F) ∧ Only lo hi w w' := markInk_calls A n 1 F w hn hcap hp
theorem heldInk_one {lo hi c : Nat} (A : Option Addr) (n : Nat) (F : Nat → List P3) (w : World) (hn : n ≤ 1048576) (hcap : 1 + 3 * pre F n ≤ 9000000000000000000) (hp : OwnInk lo hi w A n (mI 1 F)) :
    Calls Try.prog 40 #[.agg #[.slice A n c], .int .i64 1] w fun e w' => e = .returned (.int .i64 ((1 + 3 * pre F n : Nat) : Int)) ∧ Below w.heap.size w w' := heldInk_calls A n 1 F w hn hcap hp

/-- The cells of the law's variables, and what they hold. -/
structure Su (w2 : World) (z : Nat) (A : Option Addr) (n cap K8 K10 K11 : Nat) (Aw Ag : Option Addr) (G0 nr cw cg s8 s9 s10 s11 : Nat) (F6 F8 F10 : Nat → List P3) (W : World) : Prop where
  base : Below w2.heap.size w2 W
  top : K11 < W.heap.size
  c2 : W.cell? ⟨z, 0, none⟩ = some (.slice A n cap)
  c6 : W.cell? ⟨K8, 0, none⟩ = some (.slice Aw nr cw)
  c8 : W.cell? ⟨K10, 0, none⟩ = some (.slice (some ⟨G0, 0, none⟩) n n)
  c10 : W.cell? ⟨K11, 0, none⟩ = some (.slice Ag nr cg)
  o6 : OwnInk w2.heap.size s8 W Aw nr F6
  o8 : OwnInk s8 s9 W (some ⟨G0, 0, none⟩) n F8
  o10 : OwnInk s10 s11 W Ag nr F10
  ord : z < w2.heap.size ∧ w2.heap.size ≤ K8 ∧ K8 < s8 ∧ s8 ≤ s9 ∧ s9 ≤ K10 ∧ K10 < s10 ∧ s10 ≤ s11 ∧ s11 ≤ K11
section
variable {w2 : World} {z : Nat} {A : Option Addr} {n cap K8 K10 K11 : Nat} {Aw Ag : Option Addr} {G0 nr cw cg s8 s9 s10 s11 : Nat} {F6 F8 F10 F' : Nat → List P3} {W W' : World}
theorem Su.turn (h : Su w2 z A n cap K8 K10 K11 Aw Ag G0 nr cw cg s8 s9 s10 s11 F6 F8 F10 W) {lo hi : Nat} {F8' F10' : Nat → List P3} (ho : Only lo hi W W') (hlo : w2.heap.size ≤ lo)
    (h6 : K8 < lo ∨ hi ≤ K8) (h8 : K10 < lo ∨ hi ≤ K10) (h10 : K11 < lo ∨ hi ≤ K11)
    (p6 : s8 ≤ lo ∨ hi ≤ w2.heap.size) (p8 : OwnInk s8 s9 W' (some ⟨G0, 0, none⟩) n F8') (p10 : OwnInk s10 s11 W' Ag nr F10') : Su w2 z A n cap K8 K10 K11 Aw Ag G0 nr cw cg s8 s9 s10 s11 F6 F8' F10' W' := by
  have top := h.top
  have ord := h.ord
  have hbz := h.base.size
  have hb : Below w2.heap.size W W' := ho.below hlo hbz
  exact ⟨h.base.trans hb, Nat.lt_of_lt_of_le top ho.size, (hb.cell (p := ⟨z, 0, none⟩) (show z < w2.heap.size by omega)).trans h.c2,
    (ho.cell (p := ⟨K8, 0, none⟩) (show K8 < W.heap.size by omega) h6).trans h.c6, (ho.cell (p := ⟨K10, 0, none⟩) (show K10 < W.heap.size by omega) h8).trans h.c8, (ho.cell (p := ⟨K11, 0, none⟩) top h10).trans h.c10,
    h.o6.only ho p6, p8, p10, ord⟩
theorem Su.kept (h : Su w2 z A n cap K8 K10 K11 Aw Ag G0 nr cw cg s8 s9 s10 s11 F6 F8 F10 W) (hb : Below W.heap.size W W') : Su w2 z A n cap K8 K10 K11 Aw Ag G0 nr cw cg s8 s9 s10 s11 F6 F8 F10 W' := by
  have ord := h.ord
  exact h.turn (lo := W.heap.size) (hi := W.heap.size) (Only.of_below hb) h.base.size (by omega) (by omega) (by omega) (.inl (by have := h.top; omega)) (h.o8.kept hb) (h.o10.kept hb)
theorem Su.drew (h : Su w2 z A n cap K8 K10 K11 Aw Ag G0 nr cw cg s8 s9 s10 s11 F6 F8 F10 W) : Su w2 z A n cap K8 K10 K11 Aw Ag G0 nr cw cg s8 s9 s10 s11 F6 F8 F10 W.drew := h.kept (Below.refl _ _).drew
theorem Su.mark8 (h : Su w2 z A n cap K8 K10 K11 Aw Ag G0 nr cw cg s8 s9 s10 s11 F6 F8 F10 W) (ho : Only s8 s9 W W') (hp : OwnInk s8 s9 W' (some ⟨G0, 0, none⟩) n F') : Su w2 z A n cap K8 K10 K11 Aw Ag G0 nr cw cg s8 s9 s10 s11 F6 F' F10 W' := by
  have ord := h.ord
  exact h.turn ho (by omega) (by omega) (by omega) (by omega) (.inl (Nat.le_refl _)) hp (h.o10.only ho (.inr (by omega)))
theorem Su.mark10 (h : Su w2 z A n cap K8 K10 K11 Aw Ag G0 nr cw cg s8 s9 s10 s11 F6 F8 F10 W) (ho : Only s10 s11 W W') (hp : OwnInk s10 s11 W' Ag nr F') : Su w2 z A n cap K8 K10 K11 Aw Ag G0 nr cw cg s8 s9 s10 s11 F6 F8 F' W' := by
  have ord := h.ord
  exact h.turn ho (by omega) (by omega) (by omega) (by omega) (.inl (by omega)) (h.o8.only ho (.inl (by omega))) hp
end
end Go.Proofs.Ytklfmlbokedbdaa.owned
