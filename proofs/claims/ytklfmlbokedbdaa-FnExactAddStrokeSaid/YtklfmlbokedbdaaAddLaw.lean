/-
  Proved: what the law on AddStroke keeps between its statements.
  Conditions: none.
-/
import Derived.Test.YtklfmlbokedbdaaAddBoth
namespace Go.Proofs.Ytklfmlbokedbdaa.owned
open Go.ChangeShapes Go.WideShapes Go.ChangeAt Go.RowKit Go.Joins
open Go.Proofs.Ytklfmlbokedbdaa.join Go.Proofs.Ytklfmlbokedbdaa.strokes Go.Proofs.Ytklfmlbokedbdaa.valid Go.Proofs.Ytklfmlbokedbdaa.inks
set_option linter.unusedVariables false

set_option maxHeartbeats 1000000 in
theorem markStroke_own {c : Nat} (g n k : Nat) (pts : List P3) (w : World) (hn : pts.length = n) (hcap : k + 3 * n ≤ 9000000000000000000) (hp : OwnPts w g pts) :
    Calls Try.prog 39 #[.agg #[.slice (some ⟨g, 0, none⟩) n c], .int .i64 (k : Int)] w fun e w' => e = .returned (.int .i64 ((k + 3 * n : Nat) : Int)) ∧ OwnPts w' g (mP k n) ∧ Only g (g + 1) w w' := by
  have HP := Lib.hid (hp.same ((below_alloc1 w (.cells #[.slice (some ⟨g, 0, none⟩) n c] 29)).block _ hp.lt))
  clear hp
  go_enter Try.func39, Try.ntmps39
  go_wp2_with fail
  refine (markPointS_calls g n k pts _ hn hcap HP.out).mono ?_
  rintro e w1 ⟨rfl, ho, hw⟩
  have HO := Lib.hid ho
  have HW := Lib.hid ((Only.of_below (below_alloc1 w _)).trans hw)
  clear hw ho
  go_wp2
  go_ret
  exact ⟨rfl, HO.out, HW.out⟩

/-- The cells of the law's variables, and what they hold. -/
structure St (w2 : World) (z : Nat) (A B : Option Addr) (n cap m cb K6 K8 K9 K10 : Nat) (Aw Ag : Option Addr) (G0 g1 nr cw cg s8 s9 s10 s11 : Nat) (F6 F8 F10 : Nat → List P3) (P9 : List P3) (W : World) : Prop where
  base : Below w2.heap.size w2 W
  top : K10 < W.heap.size
  c2 : W.cell? ⟨z, 0, none⟩ = some (.slice A n cap)
  c3 : W.cell? ⟨z + 1, 0, none⟩ = some (.slice B m cb)
  c6 : W.cell? ⟨K6, 0, none⟩ = some (.slice Aw nr cw)
  c8 : W.cell? ⟨K8, 0, none⟩ = some (.slice (some ⟨G0, 0, none⟩) n n)
  c9 : W.cell? ⟨K9, 0, none⟩ = some (.slice (some ⟨g1, 0, none⟩) m m)
  c10 : W.cell? ⟨K10, 0, none⟩ = some (.slice Ag nr cg)
  o6 : OwnInk w2.heap.size s8 W Aw nr F6
  o8 : OwnInk s8 s9 W (some ⟨G0, 0, none⟩) n F8
  o9 : OwnPts W g1 P9
  o10 : OwnInk s10 s11 W Ag nr F10
  ord : z + 1 < w2.heap.size ∧ w2.heap.size ≤ K6 ∧ K6 < s8 ∧ s8 ≤ s9 ∧ s9 ≤ K8 ∧ K8 < g1 ∧ g1 < K9 ∧ K9 < s10 ∧ s10 ≤ s11 ∧ s11 ≤ K10
section
variable {w2 : World} {z : Nat} {A B : Option Addr} {n cap m cb K6 K8 K9 K10 : Nat} {Aw Ag : Option Addr} {G0 g1 nr cw cg s8 s9 s10 s11 : Nat} {F6 F8 F10 F' : Nat → List P3} {P9 P' : List P3} {W W' : World}
theorem St.only (h : St w2 z A B n cap m cb K6 K8 K9 K10 Aw Ag G0 g1 nr cw cg s8 s9 s10 s11 F6 F8 F10 P9 W) {lo hi : Nat} (ho : Only lo hi W W') (hlo : w2.heap.size ≤ lo)
    (h6 : K6 < lo ∨ hi ≤ K6) (h8 : K8 < lo ∨ hi ≤ K8) (h9 : K9 < lo ∨ hi ≤ K9) (h10 : K10 < lo ∨ hi ≤ K10)
    (p6 : s8 ≤ lo ∨ hi ≤ w2.heap.size) (p8 : OwnInk s8 s9 W' (some ⟨G0, 0, none⟩) n F8) (p9 : OwnPts W' g1 P9) (p10 : OwnInk s10 s11 W' Ag nr F10) :
    St w2 z A B n cap m cb K6 K8 K9 K10 Aw Ag G0 g1 nr cw cg s8 s9 s10 s11 F6 F8 F10 P9 W' := by
  have top := h.top
  have ord := h.ord
  have hbz := h.base.size
  have hb : Below w2.heap.size W W' := ho.below hlo hbz
  exact ⟨h.base.trans hb, Nat.lt_of_lt_of_le top ho.size, (hb.cell (p := ⟨z, 0, none⟩) (show z < w2.heap.size by omega)).trans h.c2, (hb.cell (p := ⟨z + 1, 0, none⟩) (show z + 1 < w2.heap.size by omega)).trans h.c3,
    (ho.cell (p := ⟨K6, 0, none⟩) (show K6 < W.heap.size by omega) h6).trans h.c6, (ho.cell (p := ⟨K8, 0, none⟩) (show K8 < W.heap.size by omega) h8).trans h.c8, (ho.cell (p := ⟨K9, 0, none⟩) (show K9 < W.heap.size by omega) h9).trans h.c9, (ho.cell (p := ⟨K10, 0, none⟩) top h10).trans h.c10,
    h.o6.only ho p6, p8, p9, p10, ord⟩
theorem St.kept (h : St w2 z A B n cap m cb K6 K8 K9 K10 Aw Ag G0 g1 nr cw cg s8 s9 s10 s11 F6 F8 F10 P9 W) (hb : Below W.heap.size W W') : St w2 z A B n cap m cb K6 K8 K9 K10 Aw Ag G0 g1 nr cw cg s8 s9 s10 s11 F6 F8 F10 P9 W' := by
  have ord := h.ord
  exact h.only (lo := W.heap.size) (hi := W.heap.size) (Only.of_below hb) h.base.size (by omega) (by omega) (by omega) (by omega) (.inl (by have := h.top; omega)) (h.o8.kept hb) (h.o9.same (hb.block _ h.o9.lt)) (h.o10.kept hb)
theorem St.drew (h : St w2 z A B n cap m cb K6 K8 K9 K10 Aw Ag G0 g1 nr cw cg s8 s9 s10 s11 F6 F8 F10 P9 W) : St w2 z A B n cap m cb K6 K8 K9 K10 Aw Ag G0 g1 nr cw cg s8 s9 s10 s11 F6 F8 F10 P9 W.drew := h.kept (Below.refl _ _).drew
/-- The same, where what o8, o9 and o10 say has been shown anew. -/
theorem St.turn (h : St w2 z A B n cap m cb K6 K8 K9 K10 Aw Ag G0 g1 nr cw cg s8 s9 s10 s11 F6 F8 F10 P9 W) {lo hi : Nat} {F8' F10' : Nat → List P3} (ho : Only lo hi W W') (hlo : w2.heap.size ≤ lo)
    (h6 : K6 < lo ∨ hi ≤ K6) (h8 : K8 < lo ∨ hi ≤ K8) (h9 : K9 < lo ∨ hi ≤ K9) (h10 : K10 < lo ∨ hi ≤ K10)
    (p6 : s8 ≤ lo ∨ hi ≤ w2.heap.size) (p8 : OwnInk s8 s9 W' (some ⟨G0, 0, none⟩) n F8') (p9 : OwnPts W' g1 P') (p10 : OwnInk s10 s11 W' Ag nr F10') : St w2 z A B n cap m cb K6 K8 K9 K10 Aw Ag G0 g1 nr cw cg s8 s9 s10 s11 F6 F8' F10' P' W' := by
  have top := h.top
  have ord := h.ord
  have hbz := h.base.size
  have hb : Below w2.heap.size W W' := ho.below hlo hbz
  exact ⟨h.base.trans hb, Nat.lt_of_lt_of_le top ho.size, (hb.cell (p := ⟨z, 0, none⟩) (show z < w2.heap.size by omega)).trans h.c2, (hb.cell (p := ⟨z + 1, 0, none⟩) (show z + 1 < w2.heap.size by omega)).trans h.c3,
    (ho.cell (p := ⟨K6, 0, none⟩) (show K6 < W.heap.size by omega) h6).trans h.c6, (ho.cell (p := ⟨K8, 0, none⟩) (show K8 < W.heap.size by omega) h8).trans h.c8, (ho.cell (p := ⟨K9, 0, none⟩) (show K9 < W.heap.size by omega) h9).trans h.c9, (ho.cell (p := ⟨K10, 0, none⟩) top h10).trans h.c10,
    h.o6.only ho p6, p8, p9, p10, ord⟩
theorem St.mark8 (h : St w2 z A B n cap m cb K6 K8 K9 K10 Aw Ag G0 g1 nr cw cg s8 s9 s10 s11 F6 F8 F10 P9 W) (ho : Only s8 s9 W W') (hp : OwnInk s8 s9 W' (some ⟨G0, 0, none⟩) n F') : St w2 z A B n cap m cb K6 K8 K9 K10 Aw Ag G0 g1 nr cw cg s8 s9 s10 s11 F6 F' F10 P9 W' := by
  have ord := h.ord
  exact h.turn ho (by omega) (by omega) (by omega) (by omega) (by omega) (.inl (Nat.le_refl _)) hp (h.o9.same (ho.block _ h.o9.lt (by omega))) (h.o10.only ho (.inr (by omega)))
theorem St.mark9 (h : St w2 z A B n cap m cb K6 K8 K9 K10 Aw Ag G0 g1 nr cw cg s8 s9 s10 s11 F6 F8 F10 P9 W) (ho : Only g1 (g1 + 1) W W') (hp : OwnPts W' g1 P') : St w2 z A B n cap m cb K6 K8 K9 K10 Aw Ag G0 g1 nr cw cg s8 s9 s10 s11 F6 F8 F10 P' W' := by
  have ord := h.ord
  exact h.turn ho (by omega) (by omega) (by omega) (by omega) (by omega) (.inl (by omega)) (h.o8.only ho (.inl (by omega))) hp (h.o10.only ho (.inr (by omega)))
theorem St.mark10 (h : St w2 z A B n cap m cb K6 K8 K9 K10 Aw Ag G0 g1 nr cw cg s8 s9 s10 s11 F6 F8 F10 P9 W) (ho : Only s10 s11 W W') (hp : OwnInk s10 s11 W' Ag nr F') : St w2 z A B n cap m cb K6 K8 K9 K10 Aw Ag G0 g1 nr cw cg s8 s9 s10 s11 F6 F8 F' P9 W' := by
  have ord := h.ord
  exact h.turn ho (by omega) (by omega) (by omega) (by omega) (by omega) (.inl (by omega)) (h.o8.only ho (.inl (by omega))) (h.o9.same (ho.block _ h.o9.lt (by omega))) hp
end
end Go.Proofs.Ytklfmlbokedbdaa.owned
