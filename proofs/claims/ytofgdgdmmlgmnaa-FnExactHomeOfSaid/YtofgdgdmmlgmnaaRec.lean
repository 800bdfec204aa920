/-
  Proved: the contracts of the helper functions, said of a record's leaves together (contracts of callees of the exact laws).
  Conditions: as theirs.
-/
import Derived.Test.YtofgdgdmmlgmnaaSz
import Derived.Test.YtofgdgdmmlgmnaaTo
import Derived.Test.YtofgdgdmmlgmnaaEq
import Derived.Test.YtofgdgdmmlgmnaaMarkS
import Derived.Test.YtofgdgdmmlgmnaaHeld
namespace Go.Proofs.Ytofgdgdmmlgmnaa.core
open Go.ChangeShapes Go.WideShapes Go.ChangeAt Go.RowKit Go.Joins
set_option linter.unusedVariables false
set_option linter.unusedSimpArgs false

/-- The values vs 0 .. read as g 0 .. -/
def ReadsRec (W : World) (k : Nat) (vs : Nat → Value) (g : Nat → Dat) : Prop := ∀ j, j < k → Reads W (vs j) (g j)
/-- Besides, each owns its memory, in blocks of F of its own. -/
def OwnRec (W : World) (k : Nat) (vs : Nat → Value) (g : Nat → Dat) (F : Nat → Prop) : Prop :=
  ∃ fp : Nat → Nat → Prop, (∀ j, j < k → Own W (vs j) (g j) (fp j)) ∧ (∀ j x, j < k → fp j x → F x ∧ x < W.heap.size) ∧ ∀ i j x, i < k → j < k → fp i x → fp j x → i = j
section
variable {W W' : World} {k : Nat} {vs : Nat → Value} {g : Nat → Dat} {F F' : Nat → Prop}
theorem ReadsRec.kept (h : ReadsRec W k vs g) (hb : Below W.heap.size W W') : ReadsRec W' k vs g := fun j hj => (h j hj).kept hb
theorem OwnRec.reads (h : OwnRec W k vs g F) : ReadsRec W k vs g := fun j hj => by obtain ⟨fp, h1, _⟩ := h; exact (h1 j hj).reads
theorem OwnRec.only (h : OwnRec W k vs g F) (ho : OnlyF F' W W') (hd : ∀ x, F x → F' x → False) : OwnRec W' k vs g F := by
  obtain ⟨fp, h1, h2, h3⟩ := h
  exact ⟨fp, fun j hj => (h1 j hj).only ho fun x hx hx' => hd x (h2 j x hj hx).1 hx', fun j x hj hx => ⟨(h2 j x hj hx).1, Nat.lt_of_lt_of_le (h2 j x hj hx).2 ho.size⟩, h3⟩
theorem OwnRec.kept (h : OwnRec W k vs g F) (hb : Below W.heap.size W W') : OwnRec W' k vs g F := h.only (F' := fun _ => False) (OnlyF.of_below hb) fun _ _ h => h
theorem OwnRec.mono (h : OwnRec W k vs g F) (hs : ∀ x, F x → F' x) : OwnRec W k vs g F' := by
  obtain ⟨fp, h1, h2, h3⟩ := h
  exact ⟨fp, h1, fun j x hj hx => ⟨hs x (h2 j x hj hx).1, (h2 j x hj hx).2⟩, h3⟩
theorem OwnRec.iv (h : OwnRec W k vs g F) {lo hi : Nat} (hlo : ∀ x, F x → lo ≤ x) (hhi : W.heap.size ≤ hi) : OwnRec W k vs g (iv lo hi) := by
  obtain ⟨fp, h1, h2, h3⟩ := h
  exact ⟨fp, h1, fun j x hj hx => ⟨⟨hlo x (h2 j x hj hx).1, Nat.lt_of_lt_of_le (h2 j x hj hx).2 hhi⟩, (h2 j x hj hx).2⟩, h3⟩
end
def costRec (k : Nat) (g : Nat → Dat) : Nat := sumTo (fun j => cost (g j)) k
/-- Of a struct's leaves the lists alone are marked. -/
def cntS : Dat → Nat
  | .sl n k f => cnt (.sl n k f)
  | _ => 0
def markS (d : Dat) (K : Nat) : Dat := match d with
  | .sl n k f => mark mt (.sl n k f) K
  | d => d
def cntRec (k : Nat) (g : Nat → Dat) : Nat := sumTo (fun j => cntS (g j)) k
def markRec (g : Nat → Dat) (K : Nat) : Nat → Dat := fun j => markS (g j) (K + sumTo (fun i => cntS (g i)) j)
theorem Reads.one {W : World} {v : Value} {d : Dat} (h : Reads W v d) : v.oneCell' = true := by cases h <;> rfl
theorem readsRec_of {W : World} {k : Nat} {vs vs' : Nat → Value} {g : Nat → Dat} (h : ReadsRec W k vs g) (he : ∀ j, j < k → vs' j = vs j) : ReadsRec W k vs' g := fun j hj => by rw [he j hj]; exact h j hj
def tyrPoint (g : Nat → Dat) : Prop := tyInt (g 0) ∧ tyInt (g 1) ∧ tyInt (g 2)
def tyrPointS (g : Nat → Dat) : Prop := tyPointS (g 0)
def tyrStroke (g : Nat → Dat) : Prop := tyPointS (g 0)
def tyrStrokeS (g : Nat → Dat) : Prop := tyStrokeS (g 0)
def tyrInk (g : Nat → Dat) : Prop := tyStrokeS (g 0)
def tyrSetting (g : Nat → Dat) : Prop := tyInt (g 0) ∧ tyInt (g 1) ∧ tyInt (g 2)
def tyrHyp (g : Nat → Dat) : Prop := tyStr (g 0) ∧ tyInt (g 1)
def tyrHypS (g : Nat → Dat) : Prop := tyHypS (g 0)

set_option maxRecDepth 100000 in
set_option maxHeartbeats 2000000 in
theorem toPoint_rec (vs : Nat → Value) (g : Nat → Dat) (w : World) (hq : costRec 3 g ≤ 1048576) (hr : ReadsRec w 3 vs g) (ht : tyrPoint g) :
    Calls Try.prog 86 #[.agg #[vs 0, vs 1, vs 2]] w fun e w' => ∃ us : Nat → Value, e = .returned (.agg #[us 0, us 1, us 2]) ∧ OwnRec w' 3 us g (iv w.heap.size w'.heap.size) ∧ Below w.heap.size w w' := by
  obtain ⟨⟨x0, e0⟩, ⟨x1, e1⟩, ⟨x2, e2⟩⟩ := ht
  have r0 := hr 0 (by omega)
  rw [e0] at r0
  obtain ⟨v0, hi0⟩ := r0.int_inv
  have r1 := hr 1 (by omega)
  rw [e1] at r1
  obtain ⟨v1, hi1⟩ := r1.int_inv
  have r2 := hr 2 (by omega)
  rw [e2] at r2
  obtain ⟨v2, hi2⟩ := r2.int_inv
  rw [v0, v1, v2]
  refine (toPoint_calls x0 x1 x2 w ).mono ?_
  rintro e w' ⟨rfl, hb⟩
  have hl9 := hb.size
  refine ⟨fun j => if j = 0 then .int .i64 x0 else if j = 1 then .int .i64 x1 else if j = 2 then .int .i64 x2 else .bool false, rfl, ⟨fun j => fun _ => False, fun j hj => ?_, fun j x hj hx => ?_, fun i j x hi hj hx hx' => ?_⟩, hb⟩
  · rcases (by omega : j = 0 ∨ j = 1 ∨ j = 2) with rfl | rfl | rfl
    · rw [e0]; exact .int _ _ hi0
    · rw [e1]; exact .int _ _ hi1
    · rw [e2]; exact .int _ _ hi2
  · rcases (by omega : j = 0 ∨ j = 1 ∨ j = 2) with rfl | rfl | rfl
    · exact hx.elim
    · exact hx.elim
    · exact hx.elim
  · rcases (by omega : i = 0 ∨ i = 1 ∨ i = 2) with rfl | rfl | rfl
    · rcases (by omega : j = 0 ∨ j = 1 ∨ j = 2) with rfl | rfl | rfl
      · rfl
      · exact hx.elim
      · exact hx.elim
    · rcases (by omega : j = 0 ∨ j = 1 ∨ j = 2) with rfl | rfl | rfl
      · exact hx.elim
      · rfl
      · exact hx.elim
    · rcases (by omega : j = 0 ∨ j = 1 ∨ j = 2) with rfl | rfl | rfl
      · exact hx.elim
      · exact hx.elim
      · rfl

set_option maxRecDepth 100000 in
set_option maxHeartbeats 2000000 in
theorem eqPoint_rec (vs us : Nat → Value) (g : Nat → Dat) (w : World) (hr : ReadsRec w 3 vs g) (hs : ReadsRec w 3 us g) (ht : tyrPoint g) :
    Calls Try.prog 92 #[.agg #[vs 0, vs 1, vs 2], .agg #[us 0, us 1, us 2]] w fun e w' => e = .returned (.bool true) ∧ Below w.heap.size w w' := by
  obtain ⟨⟨x0, e0⟩, ⟨x1, e1⟩, ⟨x2, e2⟩⟩ := ht
  have r0 := hr 0 (by omega)
  rw [e0] at r0
  obtain ⟨v0, hi0⟩ := r0.int_inv
  have r1 := hr 1 (by omega)
  rw [e1] at r1
  obtain ⟨v1, hi1⟩ := r1.int_inv
  have r2 := hr 2 (by omega)
  rw [e2] at r2
  obtain ⟨v2, hi2⟩ := r2.int_inv
  have r0' := hs 0 (by omega)
  rw [e0] at r0'
  obtain ⟨v0', hi0'⟩ := r0'.int_inv
  have r1' := hs 1 (by omega)
  rw [e1] at r1'
  obtain ⟨v1', hi1'⟩ := r1'.int_inv
  have r2' := hs 2 (by omega)
  rw [e2] at r2'
  obtain ⟨v2', hi2'⟩ := r2'.int_inv
  rw [v0, v1, v2]
  rw [v0', v1', v2']
  exact eqPoint_same x0 x1 x2 w 

set_option maxRecDepth 100000 in
set_option maxHeartbeats 2000000 in
theorem szPointS_rec (vs : Nat → Value) (g : Nat → Dat) (l : Int) (w : World) (hl : 0 ≤ l) (hl2 : l ≤ 1048576) (hr : ReadsRec w 1 vs g) (ht : tyrPointS g) :
    Calls Try.prog 58 #[vs 0, .int .i64 l] w fun e w' => e = .returned (.int .i64 (left l (costRec 1 g))) ∧ Below w.heap.size w w' := by
  have ht0 : tyPointS (g 0) := ht
  have hy0 := ht0
  obtain ⟨n0, f0, e0, -⟩ := ht0
  rw [e0] at hy0
  have r0 := hr 0 (by omega)
  rw [e0] at r0
  obtain ⟨A0, c0, v0, hm0, ra0⟩ := r0.sl_inv
  rw [v0]
  refine (szPointS_calls A0 n0 c0 f0 l w hl hl2 hm0 ra0 hy0).mono ?_
  rintro e w' ⟨rfl, hb⟩
  refine ⟨ret_int (congrArg (left l) ?_), hb⟩
  simp only [costRec, sumTo, e0]
  try simp only [cost]
  try omega

set_option maxRecDepth 100000 in
set_option maxHeartbeats 2000000 in
theorem toPointS_rec (vs : Nat → Value) (g : Nat → Dat) (w : World) (hq : costRec 1 g ≤ 1048576) (hr : ReadsRec w 1 vs g) (ht : tyrPointS g) :
    Calls Try.prog 61 #[vs 0] w fun e w' => ∃ us : Nat → Value, e = .returned (us 0) ∧ OwnRec w' 1 us g (iv w.heap.size w'.heap.size) ∧ Below w.heap.size w w' := by
  have ht0 : tyPointS (g 0) := ht
  have hy0 := ht0
  obtain ⟨n0, f0, e0, -⟩ := ht0
  rw [e0] at hy0
  have r0 := hr 0 (by omega)
  rw [e0] at r0
  obtain ⟨A0, c0, v0, hm0, ra0⟩ := r0.sl_inv
  have hq0 : cost (.sl n0 3 f0) ≤ 1048576 := by rw [← e0]; exact Nat.le_trans (Nat.le_trans (Nat.le_add_left _ _) (sumTo_lt (fun j => cost (g j)) (show 0 < 1 by omega))) hq
  rw [v0]
  refine (toPointS_calls A0 n0 c0 f0 w hq0 hm0 ra0 hy0).mono ?_
  rintro e w' ⟨G0, rfl, ho0, hb⟩
  refine ⟨fun _ => .slice (some ⟨G0, 0, none⟩) n0 n0, rfl, ⟨fun j => if j = 0 then iv w.heap.size w'.heap.size else fun _ => False, fun j hj => ?_, fun j x hj hx => ?_, fun i j x hi hj hx hx' => ?_⟩, hb⟩
  · obtain rfl : j = 0 := by omega
    · rw [e0]; exact ho0
  · obtain rfl : j = 0 := by omega
    · have h1 := (show iv w.heap.size w'.heap.size x from hx); unfold iv at *; omega
  · omega

set_option maxRecDepth 100000 in
set_option maxHeartbeats 2000000 in
theorem eqPointS_rec (vs us : Nat → Value) (g : Nat → Dat) (w : World) (hr : ReadsRec w 1 vs g) (hs : ReadsRec w 1 us g) (ht : tyrPointS g) :
    Calls Try.prog 64 #[vs 0, us 0] w fun e w' => e = .returned (.bool true) ∧ Below w.heap.size w w' := by
  have ht0 : tyPointS (g 0) := ht
  have hy0 := ht0
  obtain ⟨n0, f0, e0, -⟩ := ht0
  rw [e0] at hy0
  have r0 := hr 0 (by omega)
  rw [e0] at r0
  obtain ⟨A0, c0, v0, hm0, ra0⟩ := r0.sl_inv
  have r0' := hs 0 (by omega)
  rw [e0] at r0'
  obtain ⟨A0', c0', v0', hm0', ra0'⟩ := r0'.sl_inv
  rw [v0]
  rw [v0']
  exact eqPointS_same A0 A0' n0 c0 c0' f0 w hm0 ra0 ra0' hy0

set_option maxRecDepth 100000 in
set_option maxHeartbeats 2000000 in
theorem szStroke_rec (vs : Nat → Value) (g : Nat → Dat) (l : Int) (w : World) (hl : 0 ≤ l) (hl2 : l ≤ 1048576) (hr : ReadsRec w 1 vs g) (ht : tyrStroke g) :
    Calls Try.prog 33 #[.agg #[vs 0], .int .i64 l] w fun e w' => e = .returned (.int .i64 (left l (costRec 1 g))) ∧ Below w.heap.size w w' := by
  have ht0 : tyPointS (g 0) := ht
  have hy0 := ht0
  obtain ⟨n0, f0, e0, -⟩ := ht0
  rw [e0] at hy0
  have r0 := hr 0 (by omega)
  rw [e0] at r0
  obtain ⟨A0, c0, v0, hm0, ra0⟩ := r0.sl_inv
  rw [v0]
  refine (szStroke_calls A0 n0 c0 f0 l w hl hl2 hm0 ra0 hy0).mono ?_
  rintro e w' ⟨rfl, hb⟩
  refine ⟨ret_int (congrArg (left l) ?_), hb⟩
  simp only [costRec, sumTo, e0]
  try simp only [cost]
  try omega

set_option maxRecDepth 100000 in
set_option maxHeartbeats 2000000 in
theorem toStroke_rec (vs : Nat → Value) (g : Nat → Dat) (w : World) (hq : costRec 1 g ≤ 1048576) (hr : ReadsRec w 1 vs g) (ht : tyrStroke g) :
    Calls Try.prog 35 #[.agg #[vs 0]] w fun e w' => ∃ us : Nat → Value, e = .returned (.agg #[us 0]) ∧ OwnRec w' 1 us g (iv w.heap.size w'.heap.size) ∧ Below w.heap.size w w' := by
  have ht0 : tyPointS (g 0) := ht
  have hy0 := ht0
  obtain ⟨n0, f0, e0, -⟩ := ht0
  rw [e0] at hy0
  have r0 := hr 0 (by omega)
  rw [e0] at r0
  obtain ⟨A0, c0, v0, hm0, ra0⟩ := r0.sl_inv
  have hq0 : cost (.sl n0 3 f0) ≤ 1048576 := by rw [← e0]; exact Nat.le_trans (Nat.le_trans (Nat.le_add_left _ _) (sumTo_lt (fun j => cost (g j)) (show 0 < 1 by omega))) hq
  rw [v0]
  refine (toStroke_calls A0 n0 c0 f0 w hq0 hm0 ra0 hy0).mono ?_
  rintro e w' ⟨G0, rfl, ho0, hl0, hb⟩
  refine ⟨fun _ => .slice (some ⟨G0, 0, none⟩) n0 n0, rfl, ⟨fun j => if j = 0 then iv w.heap.size w'.heap.size else fun _ => False, fun j hj => ?_, fun j x hj hx => ?_, fun i j x hi hj hx hx' => ?_⟩, hb⟩
  · obtain rfl : j = 0 := by omega
    · rw [e0]; exact ho0
  · obtain rfl : j = 0 := by omega
    · have h1 := (show iv w.heap.size w'.heap.size x from hx); unfold iv at *; omega
  · omega

set_option maxRecDepth 100000 in
set_option maxHeartbeats 2000000 in
theorem eqStroke_rec (vs us : Nat → Value) (g : Nat → Dat) (w : World) (hr : ReadsRec w 1 vs g) (hs : ReadsRec w 1 us g) (ht : tyrStroke g) :
    Calls Try.prog 37 #[.agg #[vs 0], .agg #[us 0]] w fun e w' => e = .returned (.bool true) ∧ Below w.heap.size w w' := by
  have ht0 : tyPointS (g 0) := ht
  have hy0 := ht0
  obtain ⟨n0, f0, e0, -⟩ := ht0
  rw [e0] at hy0
  have r0 := hr 0 (by omega)
  rw [e0] at r0
  obtain ⟨A0, c0, v0, hm0, ra0⟩ := r0.sl_inv
  have r0' := hs 0 (by omega)
  rw [e0] at r0'
  obtain ⟨A0', c0', v0', hm0', ra0'⟩ := r0'.sl_inv
  rw [v0]
  rw [v0']
  exact eqStroke_same A0 n0 c0 f0 A0' c0' w hm0 ra0 ra0' hy0

set_option maxRecDepth 100000 in
set_option maxHeartbeats 2000000 in
theorem szStrokeS_rec (vs : Nat → Value) (g : Nat → Dat) (l : Int) (w : World) (hl : 0 ≤ l) (hl2 : l ≤ 1048576) (hr : ReadsRec w 1 vs g) (ht : tyrStrokeS g) :
    Calls Try.prog 65 #[vs 0, .int .i64 l] w fun e w' => e = .returned (.int .i64 (left l (costRec 1 g))) ∧ Below w.heap.size w w' := by
  have ht0 : tyStrokeS (g 0) := ht
  have hy0 := ht0
  obtain ⟨n0, f0, e0, -⟩ := ht0
  rw [e0] at hy0
  have r0 := hr 0 (by omega)
  rw [e0] at r0
  obtain ⟨A0, c0, v0, hm0, ra0⟩ := r0.sl_inv
  rw [v0]
  refine (szStrokeS_calls A0 n0 c0 f0 l w hl hl2 hm0 ra0 hy0).mono ?_
  rintro e w' ⟨rfl, hb⟩
  refine ⟨ret_int (congrArg (left l) ?_), hb⟩
  simp only [costRec, sumTo, e0]
  try simp only [cost]
  try omega

set_option maxRecDepth 100000 in
set_option maxHeartbeats 2000000 in
theorem toStrokeS_rec (vs : Nat → Value) (g : Nat → Dat) (w : World) (hq : costRec 1 g ≤ 1048576) (hr : ReadsRec w 1 vs g) (ht : tyrStrokeS g) :
    Calls Try.prog 69 #[vs 0] w fun e w' => ∃ us : Nat → Value, e = .returned (us 0) ∧ OwnRec w' 1 us g (iv w.heap.size w'.heap.size) ∧ Below w.heap.size w w' := by
  have ht0 : tyStrokeS (g 0) := ht
  have hy0 := ht0
  obtain ⟨n0, f0, e0, -⟩ := ht0
  rw [e0] at hy0
  have r0 := hr 0 (by omega)
  rw [e0] at r0
  obtain ⟨A0, c0, v0, hm0, ra0⟩ := r0.sl_inv
  have hq0 : cost (.sl n0 1 f0) ≤ 1048576 := by rw [← e0]; exact Nat.le_trans (Nat.le_trans (Nat.le_add_left _ _) (sumTo_lt (fun j => cost (g j)) (show 0 < 1 by omega))) hq
  rw [v0]
  refine (toStrokeS_calls A0 n0 c0 f0 w hq0 hm0 ra0 hy0).mono ?_
  rintro e w' ⟨G0, rfl, ho0, hb⟩
  refine ⟨fun _ => .slice (some ⟨G0, 0, none⟩) n0 n0, rfl, ⟨fun j => if j = 0 then iv w.heap.size w'.heap.size else fun _ => False, fun j hj => ?_, fun j x hj hx => ?_, fun i j x hi hj hx hx' => ?_⟩, hb⟩
  · obtain rfl : j = 0 := by omega
    · rw [e0]; exact ho0
  · obtain rfl : j = 0 := by omega
    · have h1 := (show iv w.heap.size w'.heap.size x from hx); unfold iv at *; omega
  · omega

set_option maxRecDepth 100000 in
set_option maxHeartbeats 2000000 in
theorem eqStrokeS_rec (vs us : Nat → Value) (g : Nat → Dat) (w : World) (hr : ReadsRec w 1 vs g) (hs : ReadsRec w 1 us g) (ht : tyrStrokeS g) :
    Calls Try.prog 73 #[vs 0, us 0] w fun e w' => e = .returned (.bool true) ∧ Below w.heap.size w w' := by
  have ht0 : tyStrokeS (g 0) := ht
  have hy0 := ht0
  obtain ⟨n0, f0, e0, -⟩ := ht0
  rw [e0] at hy0
  have r0 := hr 0 (by omega)
  rw [e0] at r0
  obtain ⟨A0, c0, v0, hm0, ra0⟩ := r0.sl_inv
  have r0' := hs 0 (by omega)
  rw [e0] at r0'
  obtain ⟨A0', c0', v0', hm0', ra0'⟩ := r0'.sl_inv
  rw [v0]
  rw [v0']
  exact eqStrokeS_same A0 A0' n0 c0 c0' f0 w hm0 ra0 ra0' hy0

set_option maxRecDepth 100000 in
set_option maxHeartbeats 2000000 in
theorem szInk_rec (vs : Nat → Value) (g : Nat → Dat) (l : Int) (w : World) (hl : 0 ≤ l) (hl2 : l ≤ 1048576) (hr : ReadsRec w 1 vs g) (ht : tyrInk g) :
    Calls Try.prog 38 #[.agg #[vs 0], .int .i64 l] w fun e w' => e = .returned (.int .i64 (left l (costRec 1 g))) ∧ Below w.heap.size w w' := by
  have ht0 : tyStrokeS (g 0) := ht
  have hy0 := ht0
  obtain ⟨n0, f0, e0, -⟩ := ht0
  rw [e0] at hy0
  have r0 := hr 0 (by omega)
  rw [e0] at r0
  obtain ⟨A0, c0, v0, hm0, ra0⟩ := r0.sl_inv
  rw [v0]
  refine (szInk_calls A0 n0 c0 f0 l w hl hl2 hm0 ra0 hy0).mono ?_
  rintro e w' ⟨rfl, hb⟩
  refine ⟨ret_int (congrArg (left l) ?_), hb⟩
  simp only [costRec, sumTo, e0]
  try simp only [cost]
  try omega

set_option maxRecDepth 100000 in
set_option maxHeartbeats 2000000 in
theorem toInk_rec (vs : Nat → Value) (g : Nat → Dat) (w : World) (hq : costRec 1 g ≤ 1048576) (hr : ReadsRec w 1 vs g) (ht : tyrInk g) :
    Calls Try.prog 40 #[.agg #[vs 0]] w fun e w' => ∃ us : Nat → Value, e = .returned (.agg #[us 0]) ∧ OwnRec w' 1 us g (iv w.heap.size w'.heap.size) ∧ Below w.heap.size w w' := by
  have ht0 : tyStrokeS (g 0) := ht
  have hy0 := ht0
  obtain ⟨n0, f0, e0, -⟩ := ht0
  rw [e0] at hy0
  have r0 := hr 0 (by omega)
  rw [e0] at r0
  obtain ⟨A0, c0, v0, hm0, ra0⟩ := r0.sl_inv
  have hq0 : cost (.sl n0 1 f0) ≤ 1048576 := by rw [← e0]; exact Nat.le_trans (Nat.le_trans (Nat.le_add_left _ _) (sumTo_lt (fun j => cost (g j)) (show 0 < 1 by omega))) hq
  rw [v0]
  refine (toInk_calls A0 n0 c0 f0 w hq0 hm0 ra0 hy0).mono ?_
  rintro e w' ⟨G0, rfl, ho0, hl0, hb⟩
  refine ⟨fun _ => .slice (some ⟨G0, 0, none⟩) n0 n0, rfl, ⟨fun j => if j = 0 then iv w.heap.size w'.heap.size else fun _ => False, fun j hj => ?_, fun j x hj hx => ?_, fun i j x hi hj hx hx' => ?_⟩, hb⟩
  · obtain rfl : j = 0 := by omega
    · rw [e0]; exact ho0
  · obtain rfl : j = 0 := by omega
    · have h1 := (show iv w.heap.size w'.heap.size x from hx); unfold iv at *; omega
  · omega

set_option maxRecDepth 100000 in
set_option maxHeartbeats 2000000 in
theorem eqInk_rec (vs us : Nat → Value) (g : Nat → Dat) (w : World) (hr : ReadsRec w 1 vs g) (hs : ReadsRec w 1 us g) (ht : tyrInk g) :
    Calls Try.prog 42 #[.agg #[vs 0], .agg #[us 0]] w fun e w' => e = .returned (.bool true) ∧ Below w.heap.size w w' := by
  have ht0 : tyStrokeS (g 0) := ht
  have hy0 := ht0
  obtain ⟨n0, f0, e0, -⟩ := ht0
  rw [e0] at hy0
  have r0 := hr 0 (by omega)
  rw [e0] at r0
  obtain ⟨A0, c0, v0, hm0, ra0⟩ := r0.sl_inv
  have r0' := hs 0 (by omega)
  rw [e0] at r0'
  obtain ⟨A0', c0', v0', hm0', ra0'⟩ := r0'.sl_inv
  rw [v0]
  rw [v0']
  exact eqInk_same A0 n0 c0 f0 A0' c0' w hm0 ra0 ra0' hy0

set_option maxRecDepth 100000 in
set_option maxHeartbeats 2000000 in
theorem toSetting_rec (vs : Nat → Value) (g : Nat → Dat) (w : World) (hq : costRec 3 g ≤ 1048576) (hr : ReadsRec w 3 vs g) (ht : tyrSetting g) :
    Calls Try.prog 13 #[.agg #[vs 0, vs 1, vs 2]] w fun e w' => ∃ us : Nat → Value, e = .returned (.agg #[us 0, us 1, us 2]) ∧ OwnRec w' 3 us g (iv w.heap.size w'.heap.size) ∧ Below w.heap.size w w' := by
  obtain ⟨⟨x0, e0⟩, ⟨x1, e1⟩, ⟨x2, e2⟩⟩ := ht
  have r0 := hr 0 (by omega)
  rw [e0] at r0
  obtain ⟨v0, hi0⟩ := r0.int_inv
  have r1 := hr 1 (by omega)
  rw [e1] at r1
  obtain ⟨v1, hi1⟩ := r1.int_inv
  have r2 := hr 2 (by omega)
  rw [e2] at r2
  obtain ⟨v2, hi2⟩ := r2.int_inv
  rw [v0, v1, v2]
  refine (toSetting_calls x0 x1 x2 w ).mono ?_
  rintro e w' ⟨rfl, hb⟩
  have hl9 := hb.size
  refine ⟨fun j => if j = 0 then .int .i64 x0 else if j = 1 then .int .i64 x1 else if j = 2 then .int .i64 x2 else .bool false, rfl, ⟨fun j => fun _ => False, fun j hj => ?_, fun j x hj hx => ?_, fun i j x hi hj hx hx' => ?_⟩, hb⟩
  · rcases (by omega : j = 0 ∨ j = 1 ∨ j = 2) with rfl | rfl | rfl
    · rw [e0]; exact .int _ _ hi0
    · rw [e1]; exact .int _ _ hi1
    · rw [e2]; exact .int _ _ hi2
  · rcases (by omega : j = 0 ∨ j = 1 ∨ j = 2) with rfl | rfl | rfl
    · exact hx.elim
    · exact hx.elim
    · exact hx.elim
  · rcases (by omega : i = 0 ∨ i = 1 ∨ i = 2) with rfl | rfl | rfl
    · rcases (by omega : j = 0 ∨ j = 1 ∨ j = 2) with rfl | rfl | rfl
      · rfl
      · exact hx.elim
      · exact hx.elim
    · rcases (by omega : j = 0 ∨ j = 1 ∨ j = 2) with rfl | rfl | rfl
      · exact hx.elim
      · rfl
      · exact hx.elim
    · rcases (by omega : j = 0 ∨ j = 1 ∨ j = 2) with rfl | rfl | rfl
      · exact hx.elim
      · exact hx.elim
      · rfl

set_option maxRecDepth 100000 in
set_option maxHeartbeats 2000000 in
theorem szHyp_rec (vs : Nat → Value) (g : Nat → Dat) (l : Int) (w : World) (hl : 0 ≤ l) (hl2 : l ≤ 1048576) (hr : ReadsRec w 2 vs g) (ht : tyrHyp g) :
    Calls Try.prog 45 #[.agg #[vs 0, vs 1], .int .i64 l] w fun e w' => e = .returned (.int .i64 (left l (costRec 2 g))) ∧ Below w.heap.size w w' := by
  obtain ⟨⟨s0, e0⟩, ⟨x1, e1⟩⟩ := ht
  have r0 := hr 0 (by omega)
  rw [e0] at r0
  obtain ⟨v0, hs0⟩ := r0.str_inv
  have r1 := hr 1 (by omega)
  rw [e1] at r1
  obtain ⟨v1, hi1⟩ := r1.int_inv
  rw [v0, v1]
  refine (szHyp_calls s0 x1 l w hl hl2 hs0 ).mono ?_
  rintro e w' ⟨rfl, hb⟩
  refine ⟨ret_int (congrArg (left l) ?_), hb⟩
  simp only [costRec, sumTo, e0, e1]
  try simp only [cost]
  try omega

set_option maxRecDepth 100000 in
set_option maxHeartbeats 2000000 in
theorem toHyp_rec (vs : Nat → Value) (g : Nat → Dat) (w : World) (hq : costRec 2 g ≤ 1048576) (hr : ReadsRec w 2 vs g) (ht : tyrHyp g) :
    Calls Try.prog 47 #[.agg #[vs 0, vs 1]] w fun e w' => ∃ us : Nat → Value, e = .returned (.agg #[us 0, us 1]) ∧ OwnRec w' 2 us g (iv w.heap.size w'.heap.size) ∧ Below w.heap.size w w' := by
  obtain ⟨⟨s0, e0⟩, ⟨x1, e1⟩⟩ := ht
  have r0 := hr 0 (by omega)
  rw [e0] at r0
  obtain ⟨v0, hs0⟩ := r0.str_inv
  have r1 := hr 1 (by omega)
  rw [e1] at r1
  obtain ⟨v1, hi1⟩ := r1.int_inv
  rw [v0, v1]
  refine (toHyp_calls s0 x1 w ).mono ?_
  rintro e w' ⟨rfl, hb⟩
  have hl9 := hb.size
  refine ⟨fun j => if j = 0 then .string s0 else if j = 1 then .int .i64 x1 else .bool false, rfl, ⟨fun j => fun _ => False, fun j hj => ?_, fun j x hj hx => ?_, fun i j x hi hj hx hx' => ?_⟩, hb⟩
  · rcases (by omega : j = 0 ∨ j = 1) with rfl | rfl
    · rw [e0]; exact .str _ _ hs0
    · rw [e1]; exact .int _ _ hi1
  · rcases (by omega : j = 0 ∨ j = 1) with rfl | rfl
    · exact hx.elim
    · exact hx.elim
  · rcases (by omega : i = 0 ∨ i = 1) with rfl | rfl
    · rcases (by omega : j = 0 ∨ j = 1) with rfl | rfl
      · rfl
      · exact hx.elim
    · rcases (by omega : j = 0 ∨ j = 1) with rfl | rfl
      · exact hx.elim
      · rfl

set_option maxRecDepth 100000 in
set_option maxHeartbeats 2000000 in
theorem eqHyp_rec (vs us : Nat → Value) (g : Nat → Dat) (w : World) (hr : ReadsRec w 2 vs g) (hs : ReadsRec w 2 us g) (ht : tyrHyp g) :
    Calls Try.prog 26 #[.agg #[vs 0, vs 1], .agg #[us 0, us 1]] w fun e w' => e = .returned (.bool true) ∧ Below w.heap.size w w' := by
  obtain ⟨⟨s0, e0⟩, ⟨x1, e1⟩⟩ := ht
  have r0 := hr 0 (by omega)
  rw [e0] at r0
  obtain ⟨v0, hs0⟩ := r0.str_inv
  have r1 := hr 1 (by omega)
  rw [e1] at r1
  obtain ⟨v1, hi1⟩ := r1.int_inv
  have r0' := hs 0 (by omega)
  rw [e0] at r0'
  obtain ⟨v0', hs0'⟩ := r0'.str_inv
  have r1' := hs 1 (by omega)
  rw [e1] at r1'
  obtain ⟨v1', hi1'⟩ := r1'.int_inv
  rw [v0, v1]
  rw [v0', v1']
  exact eqHyp_same s0 x1 w 

set_option maxRecDepth 100000 in
set_option maxHeartbeats 2000000 in
theorem szHypS_rec (vs : Nat → Value) (g : Nat → Dat) (l : Int) (w : World) (hl : 0 ≤ l) (hl2 : l ≤ 1048576) (hr : ReadsRec w 1 vs g) (ht : tyrHypS g) :
    Calls Try.prog 15 #[vs 0, .int .i64 l] w fun e w' => e = .returned (.int .i64 (left l (costRec 1 g))) ∧ Below w.heap.size w w' := by
  have ht0 : tyHypS (g 0) := ht
  have hy0 := ht0
  obtain ⟨n0, f0, e0, -⟩ := ht0
  rw [e0] at hy0
  have r0 := hr 0 (by omega)
  rw [e0] at r0
  obtain ⟨A0, c0, v0, hm0, ra0⟩ := r0.sl_inv
  rw [v0]
  refine (szHypS_calls A0 n0 c0 f0 l w hl hl2 hm0 ra0 hy0).mono ?_
  rintro e w' ⟨rfl, hb⟩
  refine ⟨ret_int (congrArg (left l) ?_), hb⟩
  simp only [costRec, sumTo, e0]
  try simp only [cost]
  try omega

set_option maxRecDepth 100000 in
set_option maxHeartbeats 2000000 in
theorem toHypS_rec (vs : Nat → Value) (g : Nat → Dat) (w : World) (hq : costRec 1 g ≤ 1048576) (hr : ReadsRec w 1 vs g) (ht : tyrHypS g) :
    Calls Try.prog 17 #[vs 0] w fun e w' => ∃ us : Nat → Value, e = .returned (us 0) ∧ OwnRec w' 1 us g (iv w.heap.size w'.heap.size) ∧ Below w.heap.size w w' := by
  have ht0 : tyHypS (g 0) := ht
  have hy0 := ht0
  obtain ⟨n0, f0, e0, -⟩ := ht0
  rw [e0] at hy0
  have r0 := hr 0 (by omega)
  rw [e0] at r0
  obtain ⟨A0, c0, v0, hm0, ra0⟩ := r0.sl_inv
  have hq0 : cost (.sl n0 2 f0) ≤ 1048576 := by rw [← e0]; exact Nat.le_trans (Nat.le_trans (Nat.le_add_left _ _) (sumTo_lt (fun j => cost (g j)) (show 0 < 1 by omega))) hq
  rw [v0]
  refine (toHypS_calls A0 n0 c0 f0 w hq0 hm0 ra0 hy0).mono ?_
  rintro e w' ⟨G0, rfl, ho0, hb⟩
  refine ⟨fun _ => .slice (some ⟨G0, 0, none⟩) n0 n0, rfl, ⟨fun j => if j = 0 then iv w.heap.size w'.heap.size else fun _ => False, fun j hj => ?_, fun j x hj hx => ?_, fun i j x hi hj hx hx' => ?_⟩, hb⟩
  · obtain rfl : j = 0 := by omega
    · rw [e0]; exact ho0
  · obtain rfl : j = 0 := by omega
    · have h1 := (show iv w.heap.size w'.heap.size x from hx); unfold iv at *; omega
  · omega

set_option maxRecDepth 100000 in
set_option maxHeartbeats 2000000 in
theorem eqHypS_rec (vs us : Nat → Value) (g : Nat → Dat) (w : World) (hr : ReadsRec w 1 vs g) (hs : ReadsRec w 1 us g) (ht : tyrHypS g) :
    Calls Try.prog 19 #[vs 0, us 0] w fun e w' => e = .returned (.bool true) ∧ Below w.heap.size w w' := by
  have ht0 : tyHypS (g 0) := ht
  have hy0 := ht0
  obtain ⟨n0, f0, e0, -⟩ := ht0
  rw [e0] at hy0
  have r0 := hr 0 (by omega)
  rw [e0] at r0
  obtain ⟨A0, c0, v0, hm0, ra0⟩ := r0.sl_inv
  have r0' := hs 0 (by omega)
  rw [e0] at r0'
  obtain ⟨A0', c0', v0', hm0', ra0'⟩ := r0'.sl_inv
  rw [v0]
  rw [v0']
  exact eqHypS_same A0 A0' n0 c0 c0' f0 w hm0 ra0 ra0' hy0

set_option maxRecDepth 100000 in
set_option maxHeartbeats 2000000 in
theorem markHypS_rec (vs : Nat → Value) (g : Nat → Dat) (F : Nat → Prop) (K : Nat) (z : Int) (w : World) (hz : z = (K : Int)) (h1 : 1 ≤ K) (hcap : K + cntRec 1 g ≤ 1000000000000) (ho : OwnRec w 1 vs g F) (ht : tyrHypS g) :
    Calls Try.prog 22 #[vs 0, .int .i64 z] w fun e w' => e = .returned (.int .i64 ((K + cntRec 1 g : Nat) : Int)) ∧ OwnRec w' 1 vs (markRec g K) F ∧ OnlyF F w w' := by
  have hr := ho.reads
  obtain ⟨fp, o1, o2, o3⟩ := ho
  have ht0 : tyHypS (g 0) := ht
  have hy0 := ht0
  obtain ⟨n0, f0, e0, -⟩ := ht0
  rw [e0] at hy0
  have r0 := hr 0 (by omega)
  rw [e0] at r0
  obtain ⟨A0, c0, v0, hm0, ra0⟩ := r0.sl_inv
  have hC : cntRec 1 g = cnt (.sl n0 2 f0) := by simp only [cntRec, sumTo, e0, cntS]; try omega
  rw [hC] at hcap ⊢
  have p0 := o1 0 (by omega)
  rw [v0, e0] at p0
  have m0 : markRec g K 0 = mark mt (.sl n0 2 f0) (K) := by simp only [markRec, markS, sumTo, cntS, e0]; congr 1; try omega
  rw [v0]
  refine (markHypS_calls A0 n0 c0 K z f0 (fp 0) w hz h1 hcap hm0 hy0 p0).mono ?_
  rintro e w' ⟨rfl, q0, hw⟩
  refine ⟨ret_int (by omega), ⟨fp, fun j hj => ?_, fun j x hj hx => ⟨(o2 j x hj hx).1, Nat.lt_of_lt_of_le (o2 j x hj hx).2 hw.size⟩, o3⟩, hw.mono fun x hx => ?_⟩
  · obtain rfl : j = 0 := by omega
    · rw [v0, m0]; exact q0
  · exact (o2 0 x (by omega) hx).1

set_option maxRecDepth 100000 in
set_option maxHeartbeats 2000000 in
theorem heldHypS_rec (vs : Nat → Value) (g : Nat → Dat) (K : Nat) (z : Int) (w : World) (hz : z = (K : Int)) (h1 : 1 ≤ K) (hcap : K + cntRec 1 g ≤ 1000000000000) (hr : ReadsRec w 1 vs (markRec g K)) (ht : tyrHypS g) :
    Calls Try.prog 23 #[vs 0, .int .i64 z] w fun e w' => e = .returned (.int .i64 ((K + cntRec 1 g : Nat) : Int)) ∧ Below w.heap.size w w' := by
  have ht0 : tyHypS (g 0) := ht
  have hy0 := ht0
  obtain ⟨n0, f0, e0, -⟩ := ht0
  rw [e0] at hy0
  have hC : cntRec 1 g = cnt (.sl n0 2 f0) := by simp only [cntRec, sumTo, e0, cntS]; try omega
  rw [hC] at hcap ⊢
  have m0 : markRec g K 0 = mark mt (.sl n0 2 f0) (K) := by simp only [markRec, markS, sumTo, cntS, e0]; congr 1; try omega
  have r0 := hr 0 (by omega)
  rw [m0] at r0
  obtain ⟨A0, c0, v0, hm0, -⟩ := Reads.sl_inv r0
  rw [v0] at r0
  rw [v0]
  refine (heldHypS_calls A0 n0 c0 K z f0 w hz h1 hcap hm0 hy0 r0).mono ?_
  rintro e w' ⟨rfl, hb⟩
  exact ⟨ret_int (by omega), hb⟩

end Go.Proofs.Ytofgdgdmmlgmnaa.core
