/-
  Proved: the contracts of the helper functions, said of a record's leaves together (contracts of callees of the exact laws).
  Conditions: as theirs.
-/
import Derived.Test.YtofgdgdmmlgmnabSz
import Derived.Test.YtofgdgdmmlgmnabTo
import Derived.Test.YtofgdgdmmlgmnabEq
import Derived.Test.YtofgdgdmmlgmnabMarkS
import Derived.Test.YtofgdgdmmlgmnabHeld
namespace Go.Proofs.Ytofgdgdmmlgmnab.core
open Go.ChangeShapes Go.WideShapes Go.ChangeAt Go.RowKit Go.Joins
set_option linter.unusedVariables false
set_option linter.unusedSimpArgs false

/-- The values vs 0 .. read as g 0 .. -/
def ReadsRec (W : World) (k : Nat) (vs : Nat → Value) (g : Nat → Dat) : Prop := ∀ j, j < k → Reads W (vs j) (g j)
/-- Besides, each owns its memory, in blocks of F of its own. -/
def OwnRec (W : World) (k : Nat) (vs : Nat → Value) (g : Nat → Dat) (F : Nat → Prop) : Prop :=
  ∃ fp : Nat → Nat → Prop, (∀ j, j < k → Own W (vs j) (g j) (fp j)) ∧ (∀ j x, j < k → fp j x → F x ∧ x < W.heap.size) ∧ ∀ i j x, i < k → j < k → fp i x → fp j x → i = j
section
variable {W W' : World} {k : Nat} {vs : Nat → Value} {g : Nat → Dat} {F F' : Nat → Prop}
theorem ReadsRec.kept (h : ReadsRec W k vs g) (hb : Below W.heap.size W W') : ReadsRec W' k vs g := fun j hj => (h j hj).kept hb
theorem OwnRec.reads (h : OwnRec W k vs g F) : ReadsRec W k vs g := fun j hj => by obtain ⟨fp, h1, _⟩ := h; exact (h1 j hj).reads
theorem OwnRec.only (h : OwnRec W k vs g F) (ho : OnlyF F' W W') (hd : ∀ x, F x → F' x → False) : OwnRec W' k vs g F := by
  obtain ⟨fp, h1, h2, h3⟩ := h
  exact ⟨fp, fun j hj => (h1 j hj).only ho fun x hx hx' => hd x (h2 j x hj hx).1 hx', fun j x hj hx => ⟨(h2 j x hj hx).1, Nat.lt_of_lt_of_le (h2 j x hj hx).2 ho.size⟩, h3⟩
theorem OwnRec.kept (h : OwnRec W k vs g F) (hb : Below W.heap.size W W') : OwnRec W' k vs g F := h.only (F' := fun _ => False) (OnlyF.of_below hb) fun _ _ h => h
theorem OwnRec.mono (h : OwnRec W k vs g F) (hs : ∀ x, F x → F' x) : OwnRec W k vs g F' := by
  obtain ⟨fp, h1, h2, h3⟩ := h
  exact ⟨fp, h1, fun j x hj hx => ⟨hs x (h2 j x hj hx).1, (h2 j x hj hx).2⟩, h3⟩
theorem OwnRec.iv (h : OwnRec W k vs g F) {lo hi : Nat} (hlo : ∀ x, F x → lo ≤ x) (hhi : W.heap.size ≤ hi) : OwnRec W k vs g (iv lo hi) := by
  obtain ⟨fp, h1, h2, h3⟩ := h
  exact ⟨fp, h1, fun j x hj hx => ⟨⟨hlo x (h2 j x hj hx).1, Nat.lt_of_lt_of_le (h2 j x hj hx).2 hhi⟩, (h2 j x hj hx).2⟩, h3⟩
end
def costRec (k : Nat) (g : Nat → Dat) : Nat := sumTo (fun j => cost (g j)) k
/-- Of a struct's leaves the lists alone are marked. -/
def cntS : Dat → Nat
  | .sl n k f => cnt (.sl n k f)
  | _ => 0
def markS (d : Dat) (K : Nat) : Dat := match d with
  | .sl n k f => mark mt (.sl n k f) K
  | d => d
def cntRec (k : Nat) (g : Nat → Dat) : Nat := sumTo (fun j => cntS (g j)) k
def markRec (g : Nat → Dat) (K : Nat) : Nat → Dat := fun j => markS (g j) (K + sumTo (fun i => cntS (g i)) j)
theorem Reads.one {W : World} {v : Value} {d : Dat} (h : Reads W v d) : v.oneCell' = true := by cases h <;> rfl
theorem readsRec_of {W : World} {k : Nat} {vs vs' : Nat → Value} {g : Nat → Dat} (h : ReadsRec W k vs g) (he : ∀ j, j < k → vs' j = vs j) : ReadsRec W k vs' g := fun j hj => by rw [he j hj]; exact h j hj
def tyrPoint (g : Nat → Dat) : Prop := tyInt (g 0) ∧ tyInt (g 1) ∧ tyInt (g 2)
def tyrPointS (g : Nat → Dat) : Prop := tyPointS (g 0)
def tyrStroke (g : Nat → Dat) : Prop := tyPointS (g 0)
def tyrStrokeS (g : Nat → Dat) : Prop := tyStrokeS (g 0)
def tyrInk (g : Nat → Dat) : Prop := tyStrokeS (g 0)
def tyrInt64S (g : Nat → Dat) : Prop := tyInt64S (g 0)
def tyrGroup (g : Nat → Dat) : Prop := tyInt (g 0) ∧ tyInt (g 1)
def tyrGroupS (g : Nat → Dat) : Prop := tyGroupS (g 0)

set_option maxRecDepth 100000 in
set_option maxHeartbeats 2000000 in
theorem toPoint_rec (vs : Nat → Value) (g : Nat → Dat) (w : World) (hq : costRec 3 g ≤ 1048576) (hr : ReadsRec w 3 vs g) (ht : tyrPoint g) :
    Calls Try.prog 67 #[.agg #[vs 0, vs 1, vs 2]] w fun e w' => ∃ us : Nat → Value, e = .returned (.agg #[us 0, us 1, us 2]) ∧ OwnRec w' 3 us g (iv w.heap.size w'.heap.size) ∧ Below w.heap.size w w' := by
  obtain ⟨⟨x0, e0⟩, ⟨x1, e1⟩, ⟨x2, e2⟩⟩ := ht
  have r0 := hr 0 (by omega)
  rw [e0] at r0
  obtain ⟨v0, hi0⟩ := r0.int_inv
  have r1 := hr 1 (by omega)
  rw [e1] at r1
  obtain ⟨v1, hi1⟩ := r1.int_inv
  have r2 := hr 2 (by omega)
  rw [e2] at r2
  obtain ⟨v2, hi2⟩ := r2.int_inv
  rw [v0, v1, v2]
  refine (toPoint_calls x0 x1 x2 w ).mono ?_
  rintro e w' ⟨rfl, hb⟩
  have hl9 := hb.size
  refine ⟨fun j => if j = 0 then .int .i64 x0 else if j = 1 then .int .i64 x1 else if j = 2 then .int .i64 x2 else .bool false, rfl, ⟨fun j => fun _ => False, fun j hj => ?_, fun j x hj hx => ?_, fun i j x hi hj hx hx' => ?_⟩, hb⟩
  · rcases (by omega : j = 0 ∨ j = 1 ∨ j = 2) with rfl | rfl | rfl
    · rw [e0]; exact .int _ _ hi0
    · rw [e1]; exact .int _ _ hi1
    · rw [e2]; exact .int _ _ hi2
  · rcases (by omega : j = 0 ∨ j = 1 ∨ j = 2) with rfl | rfl | rfl
    · exact hx.elim
    · exact hx.elim
    · exact hx.elim
  · rcases (by omega : i = 0 ∨ i = 1 ∨ i = 2) with rfl | rfl | rfl
    · rcases (by omega : j = 0 ∨ j = 1 ∨ j = 2) with rfl | rfl | rfl
      · rfl
      · exact hx.elim
      · exact hx.elim
    · rcases (by omega : j = 0 ∨ j = 1 ∨ j = 2) with rfl | rfl | rfl
      · exact hx.elim
      · rfl
      · exact hx.elim
    · rcases (by omega : j = 0 ∨ j = 1 ∨ j = 2) with rfl | rfl | rfl
      · exact hx.elim
      · exact hx.elim
      · rfl

set_option maxRecDepth 100000 in
set_option maxHeartbeats 2000000 in
theorem eqPoint_rec (vs us : Nat → Value) (g : Nat → Dat) (w : World) (hr : ReadsRec w 3 vs g) (hs : ReadsRec w 3 us g) (ht : tyrPoint g) :
    Calls Try.prog 70 #[.agg #[vs 0, vs 1, vs 2], .agg #[us 0, us 1, us 2]] w fun e w' => e = .returned (.bool true) ∧ Below w.heap.size w w' := by
  obtain ⟨⟨x0, e0⟩, ⟨x1, e1⟩, ⟨x2, e2⟩⟩ := ht
  have r0 := hr 0 (by omega)
  rw [e0] at r0
  obtain ⟨v0, hi0⟩ := r0.int_inv
  have r1 := hr 1 (by omega)
  rw [e1] at r1
  obtain ⟨v1, hi1⟩ := r1.int_inv
  have r2 := hr 2 (by omega)
  rw [e2] at r2
  obtain ⟨v2, hi2⟩ := r2.int_inv
  have r0' := hs 0 (by omega)
  rw [e0] at r0'
  obtain ⟨v0', hi0'⟩ := r0'.int_inv
  have r1' := hs 1 (by omega)
  rw [e1] at r1'
  obtain ⟨v1', hi1'⟩ := r1'.int_inv
  have r2' := hs 2 (by omega)
  rw [e2] at r2'
  obtain ⟨v2', hi2'⟩ := r2'.int_inv
  rw [v0, v1, v2]
  rw [v0', v1', v2']
  exact eqPoint_same x0 x1 x2 w 

set_option maxRecDepth 100000 in
set_option maxHeartbeats 2000000 in
theorem szPointS_rec (vs : Nat → Value) (g : Nat → Dat) (l : Int) (w : World) (hl : 0 ≤ l) (hl2 : l ≤ 1048576) (hr : ReadsRec w 1 vs g) (ht : tyrPointS g) :
    Calls Try.prog 56 #[vs 0, .int .i64 l] w fun e w' => e = .returned (.int .i64 (left l (costRec 1 g))) ∧ Below w.heap.size w w' := by
  have ht0 : tyPointS (g 0) := ht
  have hy0 := ht0
  obtain ⟨n0, f0, e0, -⟩ := ht0
  rw [e0] at hy0
  have r0 := hr 0 (by omega)
  rw [e0] at r0
  obtain ⟨A0, c0, v0, hm0, ra0⟩ := r0.sl_inv
  rw [v0]
  refine (szPointS_calls A0 n0 c0 f0 l w hl hl2 hm0 ra0 hy0).mono ?_
  rintro e w' ⟨rfl, hb⟩
  refine ⟨ret_int (congrArg (left l) ?_), hb⟩
  simp only [costRec, sumTo, e0]
  try simp only [cost]
  try omega

set_option maxRecDepth 100000 in
set_option maxHeartbeats 2000000 in
theorem toPointS_rec (vs : Nat → Value) (g : Nat → Dat) (w : World) (hq : costRec 1 g ≤ 1048576) (hr : ReadsRec w 1 vs g) (ht : tyrPointS g) :
    Calls Try.prog 60 #[vs 0] w fun e w' => ∃ us : Nat → Value, e = .returned (us 0) ∧ OwnRec w' 1 us g (iv w.heap.size w'.heap.size) ∧ Below w.heap.size w w' := by
  have ht0 : tyPointS (g 0) := ht
  have hy0 := ht0
  obtain ⟨n0, f0, e0, -⟩ := ht0
  rw [e0] at hy0
  have r0 := hr 0 (by omega)
  rw [e0] at r0
  obtain ⟨A0, c0, v0, hm0, ra0⟩ := r0.sl_inv
  have hq0 : cost (.sl n0 3 f0) ≤ 1048576 := by rw [← e0]; exact Nat.le_trans (Nat.le_trans (Nat.le_add_left _ _) (sumTo_lt (fun j => cost (g j)) (show 0 < 1 by omega))) hq
  rw [v0]
  refine (toPointS_calls A0 n0 c0 f0 w hq0 hm0 ra0 hy0).mono ?_
  rintro e w' ⟨G0, rfl, ho0, hb⟩
  refine ⟨fun _ => .slice (some ⟨G0, 0, none⟩) n0 n0, rfl, ⟨fun j => if j = 0 then iv w.heap.size w'.heap.size else fun _ => False, fun j hj => ?_, fun j x hj hx => ?_, fun i j x hi hj hx hx' => ?_⟩, hb⟩
  · obtain rfl : j = 0 := by omega
    · rw [e0]; exact ho0
  · obtain rfl : j = 0 := by omega
    · have h1 := (show iv w.heap.size w'.heap.size x from hx); unfold iv at *; omega
  · omega

set_option maxRecDepth 100000 in
set_option maxHeartbeats 2000000 in
theorem eqPointS_rec (vs us : Nat → Value) (g : Nat → Dat) (w : World) (hr : ReadsRec w 1 vs g) (hs : ReadsRec w 1 us g) (ht : tyrPointS g) :
    Calls Try.prog 63 #[vs 0, us 0] w fun e w' => e = .returned (.bool true) ∧ Below w.heap.size w w' := by
  have ht0 : tyPointS (g 0) := ht
  have hy0 := ht0
  obtain ⟨n0, f0, e0, -⟩ := ht0
  rw [e0] at hy0
  have r0 := hr 0 (by omega)
  rw [e0] at r0
  obtain ⟨A0, c0, v0, hm0, ra0⟩ := r0.sl_inv
  have r0' := hs 0 (by omega)
  rw [e0] at r0'
  obtain ⟨A0', c0', v0', hm0', ra0'⟩ := r0'.sl_inv
  rw [v0]
  rw [v0']
  exact eqPointS_same A0 A0' n0 c0 c0' f0 w hm0 ra0 ra0' hy0

set_option maxRecDepth 100000 in
set_option maxHeartbeats 2000000 in
theorem markPointS_rec (vs : Nat → Value) (g : Nat → Dat) (F : Nat → Prop) (K : Nat) (z : Int) (w : World) (hz : z = (K : Int)) (h1 : 1 ≤ K) (hcap : K + cntRec 1 g ≤ 1000000000000) (ho : OwnRec w 1 vs g F) (ht : tyrPointS g) :
    Calls Try.prog 52 #[vs 0, .int .i64 z] w fun e w' => e = .returned (.int .i64 ((K + cntRec 1 g : Nat) : Int)) ∧ OwnRec w' 1 vs (markRec g K) F ∧ OnlyF F w w' := by
  have hr := ho.reads
  obtain ⟨fp, o1, o2, o3⟩ := ho
  have ht0 : tyPointS (g 0) := ht
  have hy0 := ht0
  obtain ⟨n0, f0, e0, -⟩ := ht0
  rw [e0] at hy0
  have r0 := hr 0 (by omega)
  rw [e0] at r0
  obtain ⟨A0, c0, v0, hm0, ra0⟩ := r0.sl_inv
  have hC : cntRec 1 g = cnt (.sl n0 3 f0) := by simp only [cntRec, sumTo, e0, cntS]; try omega
  rw [hC] at hcap ⊢
  have p0 := o1 0 (by omega)
  rw [v0, e0] at p0
  have m0 : markRec g K 0 = mark mt (.sl n0 3 f0) (K) := by simp only [markRec, markS, sumTo, cntS, e0]; congr 1; try omega
  rw [v0]
  refine (markPointS_calls A0 n0 c0 K z f0 (fp 0) w hz h1 hcap hm0 hy0 p0).mono ?_
  rintro e w' ⟨rfl, q0, hw⟩
  refine ⟨ret_int (by omega), ⟨fp, fun j hj => ?_, fun j x hj hx => ⟨(o2 j x hj hx).1, Nat.lt_of_lt_of_le (o2 j x hj hx).2 hw.size⟩, o3⟩, hw.mono fun x hx => ?_⟩
  · obtain rfl : j = 0 := by omega
    · rw [v0, m0]; exact q0
  · exact (o2 0 x (by omega) hx).1

set_option maxRecDepth 100000 in
set_option maxHeartbeats 2000000 in
theorem szStroke_rec (vs : Nat → Value) (g : Nat → Dat) (l : Int) (w : World) (hl : 0 ≤ l) (hl2 : l ≤ 1048576) (hr : ReadsRec w 1 vs g) (ht : tyrStroke g) :
    Calls Try.prog 42 #[.agg #[vs 0], .int .i64 l] w fun e w' => e = .returned (.int .i64 (left l (costRec 1 g))) ∧ Below w.heap.size w w' := by
  have ht0 : tyPointS (g 0) := ht
  have hy0 := ht0
  obtain ⟨n0, f0, e0, -⟩ := ht0
  rw [e0] at hy0
  have r0 := hr 0 (by omega)
  rw [e0] at r0
  obtain ⟨A0, c0, v0, hm0, ra0⟩ := r0.sl_inv
  rw [v0]
  refine (szStroke_calls A0 n0 c0 f0 l w hl hl2 hm0 ra0 hy0).mono ?_
  rintro e w' ⟨rfl, hb⟩
  refine ⟨ret_int (congrArg (left l) ?_), hb⟩
  simp only [costRec, sumTo, e0]
  try simp only [cost]
  try omega

set_option maxRecDepth 100000 in
set_option maxHeartbeats 2000000 in
theorem toStroke_rec (vs : Nat → Value) (g : Nat → Dat) (w : World) (hq : costRec 1 g ≤ 1048576) (hr : ReadsRec w 1 vs g) (ht : tyrStroke g) :
    Calls Try.prog 46 #[.agg #[vs 0]] w fun e w' => ∃ us : Nat → Value, e = .returned (.agg #[us 0]) ∧ OwnRec w' 1 us g (iv w.heap.size w'.heap.size) ∧ Below w.heap.size w w' := by
  have ht0 : tyPointS (g 0) := ht
  have hy0 := ht0
  obtain ⟨n0, f0, e0, -⟩ := ht0
  rw [e0] at hy0
  have r0 := hr 0 (by omega)
  rw [e0] at r0
  obtain ⟨A0, c0, v0, hm0, ra0⟩ := r0.sl_inv
  have hq0 : cost (.sl n0 3 f0) ≤ 1048576 := by rw [← e0]; exact Nat.le_trans (Nat.le_trans (Nat.le_add_left _ _) (sumTo_lt (fun j => cost (g j)) (show 0 < 1 by omega))) hq
  rw [v0]
  refine (toStroke_calls A0 n0 c0 f0 w hq0 hm0 ra0 hy0).mono ?_
  rintro e w' ⟨G0, rfl, ho0, hl0, hb⟩
  refine ⟨fun _ => .slice (some ⟨G0, 0, none⟩) n0 n0, rfl, ⟨fun j => if j = 0 then iv w.heap.size w'.heap.size else fun _ => False, fun j hj => ?_, fun j x hj hx => ?_, fun i j x hi hj hx hx' => ?_⟩, hb⟩
  · obtain rfl : j = 0 := by omega
    · rw [e0]; exact ho0
  · obtain rfl : j = 0 := by omega
    · have h1 := (show iv w.heap.size w'.heap.size x from hx); unfold iv at *; omega
  · omega

set_option maxRecDepth 100000 in
set_option maxHeartbeats 2000000 in
theorem eqStroke_rec (vs us : Nat → Value) (g : Nat → Dat) (w : World) (hr : ReadsRec w 1 vs g) (hs : ReadsRec w 1 us g) (ht : tyrStroke g) :
    Calls Try.prog 51 #[.agg #[vs 0], .agg #[us 0]] w fun e w' => e = .returned (.bool true) ∧ Below w.heap.size w w' := by
  have ht0 : tyPointS (g 0) := ht
  have hy0 := ht0
  obtain ⟨n0, f0, e0, -⟩ := ht0
  rw [e0] at hy0
  have r0 := hr 0 (by omega)
  rw [e0] at r0
  obtain ⟨A0, c0, v0, hm0, ra0⟩ := r0.sl_inv
  have r0' := hs 0 (by omega)
  rw [e0] at r0'
  obtain ⟨A0', c0', v0', hm0', ra0'⟩ := r0'.sl_inv
  rw [v0]
  rw [v0']
  exact eqStroke_same A0 n0 c0 f0 A0' c0' w hm0 ra0 ra0' hy0

set_option maxRecDepth 100000 in
set_option maxHeartbeats 2000000 in
theorem szStrokeS_rec (vs : Nat → Value) (g : Nat → Dat) (l : Int) (w : World) (hl : 0 ≤ l) (hl2 : l ≤ 1048576) (hr : ReadsRec w 1 vs g) (ht : tyrStrokeS g) :
    Calls Try.prog 25 #[vs 0, .int .i64 l] w fun e w' => e = .returned (.int .i64 (left l (costRec 1 g))) ∧ Below w.heap.size w w' := by
  have ht0 : tyStrokeS (g 0) := ht
  have hy0 := ht0
  obtain ⟨n0, f0, e0, -⟩ := ht0
  rw [e0] at hy0
  have r0 := hr 0 (by omega)
  rw [e0] at r0
  obtain ⟨A0, c0, v0, hm0, ra0⟩ := r0.sl_inv
  rw [v0]
  refine (szStrokeS_calls A0 n0 c0 f0 l w hl hl2 hm0 ra0 hy0).mono ?_
  rintro e w' ⟨rfl, hb⟩
  refine ⟨ret_int (congrArg (left l) ?_), hb⟩
  simp only [costRec, sumTo, e0]
  try simp only [cost]
  try omega

set_option maxRecDepth 100000 in
set_option maxHeartbeats 2000000 in
theorem toStrokeS_rec (vs : Nat → Value) (g : Nat → Dat) (w : World) (hq : costRec 1 g ≤ 1048576) (hr : ReadsRec w 1 vs g) (ht : tyrStrokeS g) :
    Calls Try.prog 28 #[vs 0] w fun e w' => ∃ us : Nat → Value, e = .returned (us 0) ∧ OwnRec w' 1 us g (iv w.heap.size w'.heap.size) ∧ Below w.heap.size w w' := by
  have ht0 : tyStrokeS (g 0) := ht
  have hy0 := ht0
  obtain ⟨n0, f0, e0, -⟩ := ht0
  rw [e0] at hy0
  have r0 := hr 0 (by omega)
  rw [e0] at r0
  obtain ⟨A0, c0, v0, hm0, ra0⟩ := r0.sl_inv
  have hq0 : cost (.sl n0 1 f0) ≤ 1048576 := by rw [← e0]; exact Nat.le_trans (Nat.le_trans (Nat.le_add_left _ _) (sumTo_lt (fun j => cost (g j)) (show 0 < 1 by omega))) hq
  rw [v0]
  refine (toStrokeS_calls A0 n0 c0 f0 w hq0 hm0 ra0 hy0).mono ?_
  rintro e w' ⟨G0, rfl, ho0, hb⟩
  refine ⟨fun _ => .slice (some ⟨G0, 0, none⟩) n0 n0, rfl, ⟨fun j => if j = 0 then iv w.heap.size w'.heap.size else fun _ => False, fun j hj => ?_, fun j x hj hx => ?_, fun i j x hi hj hx hx' => ?_⟩, hb⟩
  · obtain rfl : j = 0 := by omega
    · rw [e0]; exact ho0
  · obtain rfl : j = 0 := by omega
    · have h1 := (show iv w.heap.size w'.heap.size x from hx); unfold iv at *; omega
  · omega

set_option maxRecDepth 100000 in
set_option maxHeartbeats 2000000 in
theorem eqStrokeS_rec (vs us : Nat → Value) (g : Nat → Dat) (w : World) (hr : ReadsRec w 1 vs g) (hs : ReadsRec w 1 us g) (ht : tyrStrokeS g) :
    Calls Try.prog 32 #[vs 0, us 0] w fun e w' => e = .returned (.bool true) ∧ Below w.heap.size w w' := by
  have ht0 : tyStrokeS (g 0) := ht
  have hy0 := ht0
  obtain ⟨n0, f0, e0, -⟩ := ht0
  rw [e0] at hy0
  have r0 := hr 0 (by omega)
  rw [e0] at r0
  obtain ⟨A0, c0, v0, hm0, ra0⟩ := r0.sl_inv
  have r0' := hs 0 (by omega)
  rw [e0] at r0'
  obtain ⟨A0', c0', v0', hm0', ra0'⟩ := r0'.sl_inv
  rw [v0]
  rw [v0']
  exact eqStrokeS_same A0 A0' n0 c0 c0' f0 w hm0 ra0 ra0' hy0

set_option maxRecDepth 100000 in
set_option maxHeartbeats 2000000 in
theorem markStrokeS_rec (vs : Nat → Value) (g : Nat → Dat) (F : Nat → Prop) (K : Nat) (z : Int) (w : World) (hz : z = (K : Int)) (h1 : 1 ≤ K) (hcap : K + cntRec 1 g ≤ 1000000000000) (ho : OwnRec w 1 vs g F) (ht : tyrStrokeS g) :
    Calls Try.prog 33 #[vs 0, .int .i64 z] w fun e w' => e = .returned (.int .i64 ((K + cntRec 1 g : Nat) : Int)) ∧ OwnRec w' 1 vs (markRec g K) F ∧ OnlyF F w w' := by
  have hr := ho.reads
  obtain ⟨fp, o1, o2, o3⟩ := ho
  have ht0 : tyStrokeS (g 0) := ht
  have hy0 := ht0
  obtain ⟨n0, f0, e0, -⟩ := ht0
  rw [e0] at hy0
  have r0 := hr 0 (by omega)
  rw [e0] at r0
  obtain ⟨A0, c0, v0, hm0, ra0⟩ := r0.sl_inv
  have hC : cntRec 1 g = cnt (.sl n0 1 f0) := by simp only [cntRec, sumTo, e0, cntS]; try omega
  rw [hC] at hcap ⊢
  have p0 := o1 0 (by omega)
  rw [v0, e0] at p0
  have m0 : markRec g K 0 = mark mt (.sl n0 1 f0) (K) := by simp only [markRec, markS, sumTo, cntS, e0]; congr 1; try omega
  rw [v0]
  refine (markStrokeS_calls A0 n0 c0 K z f0 (fp 0) w hz h1 hcap hm0 hy0 p0).mono ?_
  rintro e w' ⟨rfl, q0, hw⟩
  refine ⟨ret_int (by omega), ⟨fp, fun j hj => ?_, fun j x hj hx => ⟨(o2 j x hj hx).1, Nat.lt_of_lt_of_le (o2 j x hj hx).2 hw.size⟩, o3⟩, hw.mono fun x hx => ?_⟩
  · obtain rfl : j = 0 := by omega
    · rw [v0, m0]; exact q0
  · exact (o2 0 x (by omega) hx).1

set_option maxRecDepth 100000 in
set_option maxHeartbeats 2000000 in
theorem szInk_rec (vs : Nat → Value) (g : Nat → Dat) (l : Int) (w : World) (hl : 0 ≤ l) (hl2 : l ≤ 1048576) (hr : ReadsRec w 1 vs g) (ht : tyrInk g) :
    Calls Try.prog 7 #[.agg #[vs 0], .int .i64 l] w fun e w' => e = .returned (.int .i64 (left l (costRec 1 g))) ∧ Below w.heap.size w w' := by
  have ht0 : tyStrokeS (g 0) := ht
  have hy0 := ht0
  obtain ⟨n0, f0, e0, -⟩ := ht0
  rw [e0] at hy0
  have r0 := hr 0 (by omega)
  rw [e0] at r0
  obtain ⟨A0, c0, v0, hm0, ra0⟩ := r0.sl_inv
  rw [v0]
  refine (szInk_calls A0 n0 c0 f0 l w hl hl2 hm0 ra0 hy0).mono ?_
  rintro e w' ⟨rfl, hb⟩
  refine ⟨ret_int (congrArg (left l) ?_), hb⟩
  simp only [costRec, sumTo, e0]
  try simp only [cost]
  try omega

set_option maxRecDepth 100000 in
set_option maxHeartbeats 2000000 in
theorem toInk_rec (vs : Nat → Value) (g : Nat → Dat) (w : World) (hq : costRec 1 g ≤ 1048576) (hr : ReadsRec w 1 vs g) (ht : tyrInk g) :
    Calls Try.prog 9 #[.agg #[vs 0]] w fun e w' => ∃ us : Nat → Value, e = .returned (.agg #[us 0]) ∧ OwnRec w' 1 us g (iv w.heap.size w'.heap.size) ∧ Below w.heap.size w w' := by
  have ht0 : tyStrokeS (g 0) := ht
  have hy0 := ht0
  obtain ⟨n0, f0, e0, -⟩ := ht0
  rw [e0] at hy0
  have r0 := hr 0 (by omega)
  rw [e0] at r0
  obtain ⟨A0, c0, v0, hm0, ra0⟩ := r0.sl_inv
  have hq0 : cost (.sl n0 1 f0) ≤ 1048576 := by rw [← e0]; exact Nat.le_trans (Nat.le_trans (Nat.le_add_left _ _) (sumTo_lt (fun j => cost (g j)) (show 0 < 1 by omega))) hq
  rw [v0]
  refine (toInk_calls A0 n0 c0 f0 w hq0 hm0 ra0 hy0).mono ?_
  rintro e w' ⟨G0, rfl, ho0, hl0, hb⟩
  refine ⟨fun _ => .slice (some ⟨G0, 0, none⟩) n0 n0, rfl, ⟨fun j => if j = 0 then iv w.heap.size w'.heap.size else fun _ => False, fun j hj => ?_, fun j x hj hx => ?_, fun i j x hi hj hx hx' => ?_⟩, hb⟩
  · obtain rfl : j = 0 := by omega
    · rw [e0]; exact ho0
  · obtain rfl : j = 0 := by omega
    · have h1 := (show iv w.heap.size w'.heap.size x from hx); unfold iv at *; omega
  · omega

set_option maxRecDepth 100000 in
set_option maxHeartbeats 2000000 in
theorem eqInk_rec (vs us : Nat → Value) (g : Nat → Dat) (w : World) (hr : ReadsRec w 1 vs g) (hs : ReadsRec w 1 us g) (ht : tyrInk g) :
    Calls Try.prog 12 #[.agg #[vs 0], .agg #[us 0]] w fun e w' => e = .returned (.bool true) ∧ Below w.heap.size w w' := by
  have ht0 : tyStrokeS (g 0) := ht
  have hy0 := ht0
  obtain ⟨n0, f0, e0, -⟩ := ht0
  rw [e0] at hy0
  have r0 := hr 0 (by omega)
  rw [e0] at r0
  obtain ⟨A0, c0, v0, hm0, ra0⟩ := r0.sl_inv
  have r0' := hs 0 (by omega)
  rw [e0] at r0'
  obtain ⟨A0', c0', v0', hm0', ra0'⟩ := r0'.sl_inv
  rw [v0]
  rw [v0']
  exact eqInk_same A0 n0 c0 f0 A0' c0' w hm0 ra0 ra0' hy0

set_option maxRecDepth 100000 in
set_option maxHeartbeats 2000000 in
theorem markInk_rec (vs : Nat → Value) (g : Nat → Dat) (F : Nat → Prop) (K : Nat) (z : Int) (w : World) (hz : z = (K : Int)) (h1 : 1 ≤ K) (hcap : K + cntRec 1 g ≤ 1000000000000) (ho : OwnRec w 1 vs g F) (ht : tyrInk g) :
    Calls Try.prog 13 #[.agg #[vs 0], .int .i64 z] w fun e w' => e = .returned (.int .i64 ((K + cntRec 1 g : Nat) : Int)) ∧ OwnRec w' 1 vs (markRec g K) F ∧ OnlyF F w w' := by
  have hr := ho.reads
  obtain ⟨fp, o1, o2, o3⟩ := ho
  have ht0 : tyStrokeS (g 0) := ht
  have hy0 := ht0
  obtain ⟨n0, f0, e0, -⟩ := ht0
  rw [e0] at hy0
  have r0 := hr 0 (by omega)
  rw [e0] at r0
  obtain ⟨A0, c0, v0, hm0, ra0⟩ := r0.sl_inv
  have hC : cntRec 1 g = cnt (.sl n0 1 f0) := by simp only [cntRec, sumTo, e0, cntS]; try omega
  rw [hC] at hcap ⊢
  have p0 := o1 0 (by omega)
  rw [v0, e0] at p0
  have m0 : markRec g K 0 = mark mt (.sl n0 1 f0) (K) := by simp only [markRec, markS, sumTo, cntS, e0]; congr 1; try omega
  rw [v0]
  refine (markInk_calls A0 n0 c0 f0 (fp 0) K z w hz h1 (by omega) hm0 hy0 p0 (fun x hx => (o2 0 x (by omega) hx).2) ).mono ?_
  rintro e w' ⟨rfl, q0, hw⟩
  refine ⟨ret_int (by omega), ⟨fp, fun j hj => ?_, fun j x hj hx => ⟨(o2 j x hj hx).1, Nat.lt_of_lt_of_le (o2 j x hj hx).2 hw.size⟩, o3⟩, hw.mono fun x hx => ?_⟩
  · obtain rfl : j = 0 := by omega
    · rw [v0, m0]; exact q0
  · exact (o2 0 x (by omega) hx).1

set_option maxRecDepth 100000 in
set_option maxHeartbeats 2000000 in
theorem eqInt64S_rec (vs us : Nat → Value) (g : Nat → Dat) (w : World) (hr : ReadsRec w 1 vs g) (hs : ReadsRec w 1 us g) (ht : tyrInt64S g) :
    Calls Try.prog 11 #[vs 0, us 0] w fun e w' => e = .returned (.bool true) ∧ Below w.heap.size w w' := by
  have ht0 : tyInt64S (g 0) := ht
  have hy0 := ht0
  obtain ⟨n0, f0, e0, -⟩ := ht0
  rw [e0] at hy0
  have r0 := hr 0 (by omega)
  rw [e0] at r0
  obtain ⟨A0, c0, v0, hm0, ra0⟩ := r0.sl_inv
  have r0' := hs 0 (by omega)
  rw [e0] at r0'
  obtain ⟨A0', c0', v0', hm0', ra0'⟩ := r0'.sl_inv
  rw [v0]
  rw [v0']
  exact eqInt64S_same A0 A0' n0 c0 c0' f0 w hm0 ra0 ra0' hy0

set_option maxRecDepth 100000 in
set_option maxHeartbeats 2000000 in
theorem markInt64S_rec (vs : Nat → Value) (g : Nat → Dat) (F : Nat → Prop) (K : Nat) (z : Int) (w : World) (hz : z = (K : Int)) (h1 : 1 ≤ K) (hcap : K + cntRec 1 g ≤ 1000000000000) (ho : OwnRec w 1 vs g F) (ht : tyrInt64S g) :
    Calls Try.prog 14 #[vs 0, .int .i64 z] w fun e w' => e = .returned (.int .i64 ((K + cntRec 1 g : Nat) : Int)) ∧ OwnRec w' 1 vs (markRec g K) F ∧ OnlyF F w w' := by
  have hr := ho.reads
  obtain ⟨fp, o1, o2, o3⟩ := ho
  have ht0 : tyInt64S (g 0) := ht
  have hy0 := ht0
  obtain ⟨n0, f0, e0, -⟩ := ht0
  rw [e0] at hy0
  have r0 := hr 0 (by omega)
  rw [e0] at r0
  obtain ⟨A0, c0, v0, hm0, ra0⟩ := r0.sl_inv
  have hC : cntRec 1 g = cnt (.sl n0 1 f0) := by simp only [cntRec, sumTo, e0, cntS]; try omega
  rw [hC] at hcap ⊢
  have p0 := o1 0 (by omega)
  rw [v0, e0] at p0
  have m0 : markRec g K 0 = mark mt (.sl n0 1 f0) (K) := by simp only [markRec, markS, sumTo, cntS, e0]; congr 1; try omega
  rw [v0]
  refine (markInt64S_calls A0 n0 c0 K z f0 (fp 0) w hz h1 hcap hm0 hy0 p0).mono ?_
  rintro e w' ⟨rfl, q0, hw⟩
  refine ⟨ret_int (by omega), ⟨fp, fun j hj => ?_, fun j x hj hx => ⟨(o2 j x hj hx).1, Nat.lt_of_lt_of_le (o2 j x hj hx).2 hw.size⟩, o3⟩, hw.mono fun x hx => ?_⟩
  · obtain rfl : j = 0 := by omega
    · rw [v0, m0]; exact q0
  · exact (o2 0 x (by omega) hx).1

set_option maxRecDepth 100000 in
set_option maxHeartbeats 2000000 in
theorem heldInt64S_rec (vs : Nat → Value) (g : Nat → Dat) (K : Nat) (z : Int) (w : World) (hz : z = (K : Int)) (h1 : 1 ≤ K) (hcap : K + cntRec 1 g ≤ 1000000000000) (hr : ReadsRec w 1 vs (markRec g K)) (ht : tyrInt64S g) :
    Calls Try.prog 15 #[vs 0, .int .i64 z] w fun e w' => e = .returned (.int .i64 ((K + cntRec 1 g : Nat) : Int)) ∧ Below w.heap.size w w' := by
  have ht0 : tyInt64S (g 0) := ht
  have hy0 := ht0
  obtain ⟨n0, f0, e0, -⟩ := ht0
  rw [e0] at hy0
  have hC : cntRec 1 g = cnt (.sl n0 1 f0) := by simp only [cntRec, sumTo, e0, cntS]; try omega
  rw [hC] at hcap ⊢
  have m0 : markRec g K 0 = mark mt (.sl n0 1 f0) (K) := by simp only [markRec, markS, sumTo, cntS, e0]; congr 1; try omega
  have r0 := hr 0 (by omega)
  rw [m0] at r0
  obtain ⟨A0, c0, v0, hm0, -⟩ := Reads.sl_inv r0
  rw [v0] at r0
  rw [v0]
  refine (heldInt64S_calls A0 n0 c0 K z f0 w hz h1 hcap hm0 hy0 r0).mono ?_
  rintro e w' ⟨rfl, hb⟩
  exact ⟨ret_int (by omega), hb⟩

set_option maxRecDepth 100000 in
set_option maxHeartbeats 2000000 in
theorem eqGroup_rec (vs us : Nat → Value) (g : Nat → Dat) (w : World) (hr : ReadsRec w 2 vs g) (hs : ReadsRec w 2 us g) (ht : tyrGroup g) :
    Calls Try.prog 35 #[.agg #[vs 0, vs 1], .agg #[us 0, us 1]] w fun e w' => e = .returned (.bool true) ∧ Below w.heap.size w w' := by
  obtain ⟨⟨x0, e0⟩, ⟨x1, e1⟩⟩ := ht
  have r0 := hr 0 (by omega)
  rw [e0] at r0
  obtain ⟨v0, hi0⟩ := r0.int_inv
  have r1 := hr 1 (by omega)
  rw [e1] at r1
  obtain ⟨v1, hi1⟩ := r1.int_inv
  have r0' := hs 0 (by omega)
  rw [e0] at r0'
  obtain ⟨v0', hi0'⟩ := r0'.int_inv
  have r1' := hs 1 (by omega)
  rw [e1] at r1'
  obtain ⟨v1', hi1'⟩ := r1'.int_inv
  rw [v0, v1]
  rw [v0', v1']
  exact eqGroup_same x0 x1 w 

set_option maxRecDepth 100000 in
set_option maxHeartbeats 2000000 in
theorem eqGroupS_rec (vs us : Nat → Value) (g : Nat → Dat) (w : World) (hr : ReadsRec w 1 vs g) (hs : ReadsRec w 1 us g) (ht : tyrGroupS g) :
    Calls Try.prog 18 #[vs 0, us 0] w fun e w' => e = .returned (.bool true) ∧ Below w.heap.size w w' := by
  have ht0 : tyGroupS (g 0) := ht
  have hy0 := ht0
  obtain ⟨n0, f0, e0, -⟩ := ht0
  rw [e0] at hy0
  have r0 := hr 0 (by omega)
  rw [e0] at r0
  obtain ⟨A0, c0, v0, hm0, ra0⟩ := r0.sl_inv
  have r0' := hs 0 (by omega)
  rw [e0] at r0'
  obtain ⟨A0', c0', v0', hm0', ra0'⟩ := r0'.sl_inv
  rw [v0]
  rw [v0']
  exact eqGroupS_same A0 A0' n0 c0 c0' f0 w hm0 ra0 ra0' hy0

set_option maxRecDepth 100000 in
set_option maxHeartbeats 2000000 in
theorem markGroupS_rec (vs : Nat → Value) (g : Nat → Dat) (F : Nat → Prop) (K : Nat) (z : Int) (w : World) (hz : z = (K : Int)) (h1 : 1 ≤ K) (hcap : K + cntRec 1 g ≤ 1000000000000) (ho : OwnRec w 1 vs g F) (ht : tyrGroupS g) :
    Calls Try.prog 19 #[vs 0, .int .i64 z] w fun e w' => e = .returned (.int .i64 ((K + cntRec 1 g : Nat) : Int)) ∧ OwnRec w' 1 vs (markRec g K) F ∧ OnlyF F w w' := by
  have hr := ho.reads
  obtain ⟨fp, o1, o2, o3⟩ := ho
  have ht0 : tyGroupS (g 0) := ht
  have hy0 := ht0
  obtain ⟨n0, f0, e0, -⟩ := ht0
  rw [e0] at hy0
  have r0 := hr 0 (by omega)
  rw [e0] at r0
  obtain ⟨A0, c0, v0, hm0, ra0⟩ := r0.sl_inv
  have hC : cntRec 1 g = cnt (.sl n0 2 f0) := by simp only [cntRec, sumTo, e0, cntS]; try omega
  rw [hC] at hcap ⊢
  have p0 := o1 0 (by omega)
  rw [v0, e0] at p0
  have m0 : markRec g K 0 = mark mt (.sl n0 2 f0) (K) := by simp only [markRec, markS, sumTo, cntS, e0]; congr 1; try omega
  rw [v0]
  refine (markGroupS_calls A0 n0 c0 K z f0 (fp 0) w hz h1 hcap hm0 hy0 p0).mono ?_
  rintro e w' ⟨rfl, q0, hw⟩
  refine ⟨ret_int (by omega), ⟨fp, fun j hj => ?_, fun j x hj hx => ⟨(o2 j x hj hx).1, Nat.lt_of_lt_of_le (o2 j x hj hx).2 hw.size⟩, o3⟩, hw.mono fun x hx => ?_⟩
  · obtain rfl : j = 0 := by omega
    · rw [v0, m0]; exact q0
  · exact (o2 0 x (by omega) hx).1

set_option maxRecDepth 100000 in
set_option maxHeartbeats 2000000 in
theorem heldGroupS_rec (vs : Nat → Value) (g : Nat → Dat) (K : Nat) (z : Int) (w : World) (hz : z = (K : Int)) (h1 : 1 ≤ K) (hcap : K + cntRec 1 g ≤ 1000000000000) (hr : ReadsRec w 1 vs (markRec g K)) (ht : tyrGroupS g) :
    Calls Try.prog 20 #[vs 0, .int .i64 z] w fun e w' => e = .returned (.int .i64 ((K + cntRec 1 g : Nat) : Int)) ∧ Below w.heap.size w w' := by
  have ht0 : tyGroupS (g 0) := ht
  have hy0 := ht0
  obtain ⟨n0, f0, e0, -⟩ := ht0
  rw [e0] at hy0
  have hC : cntRec 1 g = cnt (.sl n0 2 f0) := by simp only [cntRec, sumTo, e0, cntS]; try omega
  rw [hC] at hcap ⊢
  have m0 : markRec g K 0 = mark mt (.sl n0 2 f0) (K) := by simp only [markRec, markS, sumTo, cntS, e0]; congr 1; try omega
  have r0 := hr 0 (by omega)
  rw [m0] at r0
  obtain ⟨A0, c0, v0, hm0, -⟩ := Reads.sl_inv r0
  rw [v0] at r0
  rw [v0]
  refine (heldGroupS_calls A0 n0 c0 K z f0 w hz h1 hcap hm0 hy0 r0).mono ?_
  rintro e w' ⟨rfl, hb⟩
  exact ⟨ret_int (by omega), hb⟩

end Go.Proofs.Ytofgdgdmmlgmnab.core
