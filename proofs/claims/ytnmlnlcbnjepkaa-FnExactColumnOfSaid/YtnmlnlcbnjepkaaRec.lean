/-
  Proved: the contracts of the helper functions, said of a record's leaves together (contracts of callees of the exact laws).
  Conditions: as theirs.
-/
import Derived.Test.YtnmlnlcbnjepkaaSz
import Derived.Test.YtnmlnlcbnjepkaaTo
import Derived.Test.YtnmlnlcbnjepkaaEq
import Derived.Test.YtnmlnlcbnjepkaaMarkS
import Derived.Test.YtnmlnlcbnjepkaaHeld
namespace Go.Proofs.Ytnmlnlcbnjepkaa.core
open Go.ChangeShapes Go.WideShapes Go.ChangeAt Go.RowKit Go.Joins
set_option linter.unusedVariables false
set_option linter.unusedSimpArgs false

/-- The values vs 0 .. read as g 0 .. -/
def ReadsRec (W : World) (k : Nat) (vs : Nat → Value) (g : Nat → Dat) : Prop := ∀ j, j < k → Reads W (vs j) (g j)
/-- Besides, each owns its memory, in blocks of F of its own. -/
def OwnRec (W : World) (k : Nat) (vs : Nat → Value) (g : Nat → Dat) (F : Nat → Prop) : Prop :=
  ∃ fp : Nat → Nat → Prop, (∀ j, j < k → Own W (vs j) (g j) (fp j)) ∧ (∀ j x, j < k → fp j x → F x ∧ x < W.heap.size) ∧ ∀ i j x, i < k → j < k → fp i x → fp j x → i = j
section
variable {W W' : World} {k : Nat} {vs : Nat → Value} {g : Nat → Dat} {F F' : Nat → Prop}
theorem ReadsRec.kept (h : ReadsRec W k vs g) (hb : Below W.heap.size W W') : ReadsRec W' k vs g := fun j hj => (h j hj).kept hb
theorem OwnRec.reads (h : OwnRec W k vs g F) : ReadsRec W k vs g := fun j hj => by obtain ⟨fp, h1, _⟩ := h; exact (h1 j hj).reads
theorem OwnRec.only (h : OwnRec W k vs g F) (ho : OnlyF F' W W') (hd : ∀ x, F x → F' x → False) : OwnRec W' k vs g F := by
  obtain ⟨fp, h1, h2, h3⟩ := h
  exact ⟨fp, fun j hj => (h1 j hj).only ho fun x hx hx' => hd x (h2 j x hj hx).1 hx', fun j x hj hx => ⟨(h2 j x hj hx).1, Nat.lt_of_lt_of_le (h2 j x hj hx).2 ho.size⟩, h3⟩
theorem OwnRec.kept (h : OwnRec W k vs g F) (hb : Below W.heap.size W W') : OwnRec W' k vs g F := h.only (F' := fun _ => False) (OnlyF.of_below hb) fun _ _ h => h
theorem OwnRec.mono (h : OwnRec W k vs g F) (hs : ∀ x, F x → F' x) : OwnRec W k vs g F' := by
  obtain ⟨fp, h1, h2, h3⟩ := h
  exact ⟨fp, h1, fun j x hj hx => ⟨hs x (h2 j x hj hx).1, (h2 j x hj hx).2⟩, h3⟩
theorem OwnRec.iv (h : OwnRec W k vs g F) {lo hi : Nat} (hlo : ∀ x, F x → lo ≤ x) (hhi : W.heap.size ≤ hi) : OwnRec W k vs g (iv lo hi) := by
  obtain ⟨fp, h1, h2, h3⟩ := h
  exact ⟨fp, h1, fun j x hj hx => ⟨⟨hlo x (h2 j x hj hx).1, Nat.lt_of_lt_of_le (h2 j x hj hx).2 hhi⟩, (h2 j x hj hx).2⟩, h3⟩
end
def costRec (k : Nat) (g : Nat → Dat) : Nat := sumTo (fun j => cost (g j)) k
/-- Of a struct's leaves the lists alone are marked. -/
def cntS : Dat → Nat
  | .sl n k f => cnt (.sl n k f)
  | _ => 0
def markS (d : Dat) (K : Nat) : Dat := match d with
  | .sl n k f => mark mt (.sl n k f) K
  | d => d
def cntRec (k : Nat) (g : Nat → Dat) : Nat := sumTo (fun j => cntS (g j)) k
def markRec (g : Nat → Dat) (K : Nat) : Nat → Dat := fun j => markS (g j) (K + sumTo (fun i => cntS (g i)) j)
theorem Reads.one {W : World} {v : Value} {d : Dat} (h : Reads W v d) : v.oneCell' = true := by cases h <;> rfl
theorem readsRec_of {W : World} {k : Nat} {vs vs' : Nat → Value} {g : Nat → Dat} (h : ReadsRec W k vs g) (he : ∀ j, j < k → vs' j = vs j) : ReadsRec W k vs' g := fun j hj => by rw [he j hj]; exact h j hj
def tyrPoint (g : Nat → Dat) : Prop := tyInt (g 0) ∧ tyInt (g 1) ∧ tyInt (g 2)
def tyrPointS (g : Nat → Dat) : Prop := tyPointS (g 0)
def tyrStroke (g : Nat → Dat) : Prop := tyPointS (g 0)
def tyrStrokeS (g : Nat → Dat) : Prop := tyStrokeS (g 0)
def tyrInk (g : Nat → Dat) : Prop := tyStrokeS (g 0)
def tyrChannel (g : Nat → Dat) : Prop := tyStr (g 0) ∧ tyStr (g 1) ∧ tyInt (g 2) ∧ tyInt (g 3)
def tyrChannelS (g : Nat → Dat) : Prop := tyChannelS (g 0)
def tyrInt64S (g : Nat → Dat) : Prop := tyInt64S (g 0)
def tyrInt64SS (g : Nat → Dat) : Prop := tyInt64SS (g 0)
def tyrRows (g : Nat → Dat) : Prop := tyInt64SS (g 0)
def tyrRowsS (g : Nat → Dat) : Prop := tyRowsS (g 0)
def tyrNote (g : Nat → Dat) : Prop := tyInt (g 0) ∧ tyInt (g 1) ∧ tyStr (g 2)
def tyrNoteS (g : Nat → Dat) : Prop := tyNoteS (g 0)
def tyrFile (g : Nat → Dat) : Prop := tyChannelS (g 0) ∧ tyRowsS (g 1) ∧ tyNoteS (g 2)

set_option maxRecDepth 100000 in
set_option maxHeartbeats 2000000 in
theorem toPoint_rec (vs : Nat → Value) (g : Nat → Dat) (w : World) (hq : costRec 3 g ≤ 1048576) (hr : ReadsRec w 3 vs g) (ht : tyrPoint g) :
    Calls Try.prog 172 #[.agg #[vs 0, vs 1, vs 2]] w fun e w' => ∃ us : Nat → Value, e = .returned (.agg #[us 0, us 1, us 2]) ∧ OwnRec w' 3 us g (iv w.heap.size w'.heap.size) ∧ Below w.heap.size w w' := by
  obtain ⟨⟨x0, e0⟩, ⟨x1, e1⟩, ⟨x2, e2⟩⟩ := ht
  have r0 := hr 0 (by omega)
  rw [e0] at r0
  obtain ⟨v0, hi0⟩ := r0.int_inv
  have r1 := hr 1 (by omega)
  rw [e1] at r1
  obtain ⟨v1, hi1⟩ := r1.int_inv
  have r2 := hr 2 (by omega)
  rw [e2] at r2
  obtain ⟨v2, hi2⟩ := r2.int_inv
  rw [v0, v1, v2]
  refine (toPoint_calls x0 x1 x2 w ).mono ?_
  rintro e w' ⟨rfl, hb⟩
  have hl9 := hb.size
  refine ⟨fun j => if j = 0 then .int .i64 x0 else if j = 1 then .int .i64 x1 else if j = 2 then .int .i64 x2 else .bool false, rfl, ⟨fun j => fun _ => False, fun j hj => ?_, fun j x hj hx => ?_, fun i j x hi hj hx hx' => ?_⟩, hb⟩
  · rcases (by omega : j = 0 ∨ j = 1 ∨ j = 2) with rfl | rfl | rfl
    · rw [e0]; exact .int _ _ hi0
    · rw [e1]; exact .int _ _ hi1
    · rw [e2]; exact .int _ _ hi2
  · rcases (by omega : j = 0 ∨ j = 1 ∨ j = 2) with rfl | rfl | rfl
    · exact hx.elim
    · exact hx.elim
    · exact hx.elim
  · rcases (by omega : i = 0 ∨ i = 1 ∨ i = 2) with rfl | rfl | rfl
    · rcases (by omega : j = 0 ∨ j = 1 ∨ j = 2) with rfl | rfl | rfl
      · rfl
      · exact hx.elim
      · exact hx.elim
    · rcases (by omega : j = 0 ∨ j = 1 ∨ j = 2) with rfl | rfl | rfl
      · exact hx.elim
      · rfl
      · exact hx.elim
    · rcases (by omega : j = 0 ∨ j = 1 ∨ j = 2) with rfl | rfl | rfl
      · exact hx.elim
      · exact hx.elim
      · rfl

set_option maxRecDepth 100000 in
set_option maxHeartbeats 2000000 in
theorem eqPoint_rec (vs us : Nat → Value) (g : Nat → Dat) (w : World) (hr : ReadsRec w 3 vs g) (hs : ReadsRec w 3 us g) (ht : tyrPoint g) :
    Calls Try.prog 173 #[.agg #[vs 0, vs 1, vs 2], .agg #[us 0, us 1, us 2]] w fun e w' => e = .returned (.bool true) ∧ Below w.heap.size w w' := by
  obtain ⟨⟨x0, e0⟩, ⟨x1, e1⟩, ⟨x2, e2⟩⟩ := ht
  have r0 := hr 0 (by omega)
  rw [e0] at r0
  obtain ⟨v0, hi0⟩ := r0.int_inv
  have r1 := hr 1 (by omega)
  rw [e1] at r1
  obtain ⟨v1, hi1⟩ := r1.int_inv
  have r2 := hr 2 (by omega)
  rw [e2] at r2
  obtain ⟨v2, hi2⟩ := r2.int_inv
  have r0' := hs 0 (by omega)
  rw [e0] at r0'
  obtain ⟨v0', hi0'⟩ := r0'.int_inv
  have r1' := hs 1 (by omega)
  rw [e1] at r1'
  obtain ⟨v1', hi1'⟩ := r1'.int_inv
  have r2' := hs 2 (by omega)
  rw [e2] at r2'
  obtain ⟨v2', hi2'⟩ := r2'.int_inv
  rw [v0, v1, v2]
  rw [v0', v1', v2']
  exact eqPoint_same x0 x1 x2 w 

set_option maxRecDepth 100000 in
set_option maxHeartbeats 2000000 in
theorem szPointS_rec (vs : Nat → Value) (g : Nat → Dat) (l : Int) (w : World) (hl : 0 ≤ l) (hl2 : l ≤ 1048576) (hr : ReadsRec w 1 vs g) (ht : tyrPointS g) :
    Calls Try.prog 148 #[vs 0, .int .i64 l] w fun e w' => e = .returned (.int .i64 (left l (costRec 1 g))) ∧ Below w.heap.size w w' := by
  have ht0 : tyPointS (g 0) := ht
  have hy0 := ht0
  obtain ⟨n0, f0, e0, -⟩ := ht0
  rw [e0] at hy0
  have r0 := hr 0 (by omega)
  rw [e0] at r0
  obtain ⟨A0, c0, v0, hm0, ra0⟩ := r0.sl_inv
  rw [v0]
  refine (szPointS_calls A0 n0 c0 f0 l w hl hl2 hm0 ra0 hy0).mono ?_
  rintro e w' ⟨rfl, hb⟩
  refine ⟨ret_int (congrArg (left l) ?_), hb⟩
  simp only [costRec, sumTo, e0]
  try simp only [cost]
  try omega

set_option maxRecDepth 100000 in
set_option maxHeartbeats 2000000 in
theorem toPointS_rec (vs : Nat → Value) (g : Nat → Dat) (w : World) (hq : costRec 1 g ≤ 1048576) (hr : ReadsRec w 1 vs g) (ht : tyrPointS g) :
    Calls Try.prog 150 #[vs 0] w fun e w' => ∃ us : Nat → Value, e = .returned (us 0) ∧ OwnRec w' 1 us g (iv w.heap.size w'.heap.size) ∧ Below w.heap.size w w' := by
  have ht0 : tyPointS (g 0) := ht
  have hy0 := ht0
  obtain ⟨n0, f0, e0, -⟩ := ht0
  rw [e0] at hy0
  have r0 := hr 0 (by omega)
  rw [e0] at r0
  obtain ⟨A0, c0, v0, hm0, ra0⟩ := r0.sl_inv
  have hq0 : cost (.sl n0 3 f0) ≤ 1048576 := by rw [← e0]; exact Nat.le_trans (Nat.le_trans (Nat.le_add_left _ _) (sumTo_lt (fun j => cost (g j)) (show 0 < 1 by omega))) hq
  rw [v0]
  refine (toPointS_calls A0 n0 c0 f0 w hq0 hm0 ra0 hy0).mono ?_
  rintro e w' ⟨G0, rfl, ho0, hb⟩
  refine ⟨fun _ => .slice (some ⟨G0, 0, none⟩) n0 n0, rfl, ⟨fun j => if j = 0 then iv w.heap.size w'.heap.size else fun _ => False, fun j hj => ?_, fun j x hj hx => ?_, fun i j x hi hj hx hx' => ?_⟩, hb⟩
  · obtain rfl : j = 0 := by omega
    · rw [e0]; exact ho0
  · obtain rfl : j = 0 := by omega
    · have h1 := (show iv w.heap.size w'.heap.size x from hx); unfold iv at *; omega
  · omega

set_option maxRecDepth 100000 in
set_option maxHeartbeats 2000000 in
theorem eqPointS_rec (vs us : Nat → Value) (g : Nat → Dat) (w : World) (hr : ReadsRec w 1 vs g) (hs : ReadsRec w 1 us g) (ht : tyrPointS g) :
    Calls Try.prog 152 #[vs 0, us 0] w fun e w' => e = .returned (.bool true) ∧ Below w.heap.size w w' := by
  have ht0 : tyPointS (g 0) := ht
  have hy0 := ht0
  obtain ⟨n0, f0, e0, -⟩ := ht0
  rw [e0] at hy0
  have r0 := hr 0 (by omega)
  rw [e0] at r0
  obtain ⟨A0, c0, v0, hm0, ra0⟩ := r0.sl_inv
  have r0' := hs 0 (by omega)
  rw [e0] at r0'
  obtain ⟨A0', c0', v0', hm0', ra0'⟩ := r0'.sl_inv
  rw [v0]
  rw [v0']
  exact eqPointS_same A0 A0' n0 c0 c0' f0 w hm0 ra0 ra0' hy0

set_option maxRecDepth 100000 in
set_option maxHeartbeats 2000000 in
theorem markPointS_rec (vs : Nat → Value) (g : Nat → Dat) (F : Nat → Prop) (K : Nat) (z : Int) (w : World) (hz : z = (K : Int)) (h1 : 1 ≤ K) (hcap : K + cntRec 1 g ≤ 1000000000000) (ho : OwnRec w 1 vs g F) (ht : tyrPointS g) :
    Calls Try.prog 108 #[vs 0, .int .i64 z] w fun e w' => e = .returned (.int .i64 ((K + cntRec 1 g : Nat) : Int)) ∧ OwnRec w' 1 vs (markRec g K) F ∧ OnlyF F w w' := by
  have hr := ho.reads
  obtain ⟨fp, o1, o2, o3⟩ := ho
  have ht0 : tyPointS (g 0) := ht
  have hy0 := ht0
  obtain ⟨n0, f0, e0, -⟩ := ht0
  rw [e0] at hy0
  have r0 := hr 0 (by omega)
  rw [e0] at r0
  obtain ⟨A0, c0, v0, hm0, ra0⟩ := r0.sl_inv
  have hC : cntRec 1 g = cnt (.sl n0 3 f0) := by simp only [cntRec, sumTo, e0, cntS]; try omega
  rw [hC] at hcap ⊢
  have p0 := o1 0 (by omega)
  rw [v0, e0] at p0
  have m0 : markRec g K 0 = mark mt (.sl n0 3 f0) (K) := by simp only [markRec, markS, sumTo, cntS, e0]; congr 1; try omega
  rw [v0]
  refine (markPointS_calls A0 n0 c0 K z f0 (fp 0) w hz h1 hcap hm0 hy0 p0).mono ?_
  rintro e w' ⟨rfl, q0, hw⟩
  refine ⟨ret_int (by omega), ⟨fp, fun j hj => ?_, fun j x hj hx => ⟨(o2 j x hj hx).1, Nat.lt_of_lt_of_le (o2 j x hj hx).2 hw.size⟩, o3⟩, hw.mono fun x hx => ?_⟩
  · obtain rfl : j = 0 := by omega
    · rw [v0, m0]; exact q0
  · exact (o2 0 x (by omega) hx).1

set_option maxRecDepth 100000 in
set_option maxHeartbeats 2000000 in
theorem heldPointS_rec (vs : Nat → Value) (g : Nat → Dat) (K : Nat) (z : Int) (w : World) (hz : z = (K : Int)) (h1 : 1 ≤ K) (hcap : K + cntRec 1 g ≤ 1000000000000) (hr : ReadsRec w 1 vs (markRec g K)) (ht : tyrPointS g) :
    Calls Try.prog 143 #[vs 0, .int .i64 z] w fun e w' => e = .returned (.int .i64 ((K + cntRec 1 g : Nat) : Int)) ∧ Below w.heap.size w w' := by
  have ht0 : tyPointS (g 0) := ht
  have hy0 := ht0
  obtain ⟨n0, f0, e0, -⟩ := ht0
  rw [e0] at hy0
  have hC : cntRec 1 g = cnt (.sl n0 3 f0) := by simp only [cntRec, sumTo, e0, cntS]; try omega
  rw [hC] at hcap ⊢
  have m0 : markRec g K 0 = mark mt (.sl n0 3 f0) (K) := by simp only [markRec, markS, sumTo, cntS, e0]; congr 1; try omega
  have r0 := hr 0 (by omega)
  rw [m0] at r0
  obtain ⟨A0, c0, v0, hm0, -⟩ := Reads.sl_inv r0
  rw [v0] at r0
  rw [v0]
  refine (heldPointS_calls A0 n0 c0 K z f0 w hz h1 hcap hm0 hy0 r0).mono ?_
  rintro e w' ⟨rfl, hb⟩
  exact ⟨ret_int (by omega), hb⟩

set_option maxRecDepth 100000 in
set_option maxHeartbeats 2000000 in
theorem szStroke_rec (vs : Nat → Value) (g : Nat → Dat) (l : Int) (w : World) (hl : 0 ≤ l) (hl2 : l ≤ 1048576) (hr : ReadsRec w 1 vs g) (ht : tyrStroke g) :
    Calls Try.prog 101 #[.agg #[vs 0], .int .i64 l] w fun e w' => e = .returned (.int .i64 (left l (costRec 1 g))) ∧ Below w.heap.size w w' := by
  have ht0 : tyPointS (g 0) := ht
  have hy0 := ht0
  obtain ⟨n0, f0, e0, -⟩ := ht0
  rw [e0] at hy0
  have r0 := hr 0 (by omega)
  rw [e0] at r0
  obtain ⟨A0, c0, v0, hm0, ra0⟩ := r0.sl_inv
  rw [v0]
  refine (szStroke_calls A0 n0 c0 f0 l w hl hl2 hm0 ra0 hy0).mono ?_
  rintro e w' ⟨rfl, hb⟩
  refine ⟨ret_int (congrArg (left l) ?_), hb⟩
  simp only [costRec, sumTo, e0]
  try simp only [cost]
  try omega

set_option maxRecDepth 100000 in
set_option maxHeartbeats 2000000 in
theorem toStroke_rec (vs : Nat → Value) (g : Nat → Dat) (w : World) (hq : costRec 1 g ≤ 1048576) (hr : ReadsRec w 1 vs g) (ht : tyrStroke g) :
    Calls Try.prog 104 #[.agg #[vs 0]] w fun e w' => ∃ us : Nat → Value, e = .returned (.agg #[us 0]) ∧ OwnRec w' 1 us g (iv w.heap.size w'.heap.size) ∧ Below w.heap.size w w' := by
  have ht0 : tyPointS (g 0) := ht
  have hy0 := ht0
  obtain ⟨n0, f0, e0, -⟩ := ht0
  rw [e0] at hy0
  have r0 := hr 0 (by omega)
  rw [e0] at r0
  obtain ⟨A0, c0, v0, hm0, ra0⟩ := r0.sl_inv
  have hq0 : cost (.sl n0 3 f0) ≤ 1048576 := by rw [← e0]; exact Nat.le_trans (Nat.le_trans (Nat.le_add_left _ _) (sumTo_lt (fun j => cost (g j)) (show 0 < 1 by omega))) hq
  rw [v0]
  refine (toStroke_calls A0 n0 c0 f0 w hq0 hm0 ra0 hy0).mono ?_
  rintro e w' ⟨G0, rfl, ho0, hl0, hb⟩
  refine ⟨fun _ => .slice (some ⟨G0, 0, none⟩) n0 n0, rfl, ⟨fun j => if j = 0 then iv w.heap.size w'.heap.size else fun _ => False, fun j hj => ?_, fun j x hj hx => ?_, fun i j x hi hj hx hx' => ?_⟩, hb⟩
  · obtain rfl : j = 0 := by omega
    · rw [e0]; exact ho0
  · obtain rfl : j = 0 := by omega
    · have h1 := (show iv w.heap.size w'.heap.size x from hx); unfold iv at *; omega
  · omega

set_option maxRecDepth 100000 in
set_option maxHeartbeats 2000000 in
theorem eqStroke_rec (vs us : Nat → Value) (g : Nat → Dat) (w : World) (hr : ReadsRec w 1 vs g) (hs : ReadsRec w 1 us g) (ht : tyrStroke g) :
    Calls Try.prog 107 #[.agg #[vs 0], .agg #[us 0]] w fun e w' => e = .returned (.bool true) ∧ Below w.heap.size w w' := by
  have ht0 : tyPointS (g 0) := ht
  have hy0 := ht0
  obtain ⟨n0, f0, e0, -⟩ := ht0
  rw [e0] at hy0
  have r0 := hr 0 (by omega)
  rw [e0] at r0
  obtain ⟨A0, c0, v0, hm0, ra0⟩ := r0.sl_inv
  have r0' := hs 0 (by omega)
  rw [e0] at r0'
  obtain ⟨A0', c0', v0', hm0', ra0'⟩ := r0'.sl_inv
  rw [v0]
  rw [v0']
  exact eqStroke_same A0 n0 c0 f0 A0' c0' w hm0 ra0 ra0' hy0

set_option maxRecDepth 100000 in
set_option maxHeartbeats 2000000 in
theorem szStrokeS_rec (vs : Nat → Value) (g : Nat → Dat) (l : Int) (w : World) (hl : 0 ≤ l) (hl2 : l ≤ 1048576) (hr : ReadsRec w 1 vs g) (ht : tyrStrokeS g) :
    Calls Try.prog 54 #[vs 0, .int .i64 l] w fun e w' => e = .returned (.int .i64 (left l (costRec 1 g))) ∧ Below w.heap.size w w' := by
  have ht0 : tyStrokeS (g 0) := ht
  have hy0 := ht0
  obtain ⟨n0, f0, e0, -⟩ := ht0
  rw [e0] at hy0
  have r0 := hr 0 (by omega)
  rw [e0] at r0
  obtain ⟨A0, c0, v0, hm0, ra0⟩ := r0.sl_inv
  rw [v0]
  refine (szStrokeS_calls A0 n0 c0 f0 l w hl hl2 hm0 ra0 hy0).mono ?_
  rintro e w' ⟨rfl, hb⟩
  refine ⟨ret_int (congrArg (left l) ?_), hb⟩
  simp only [costRec, sumTo, e0]
  try simp only [cost]
  try omega

set_option maxRecDepth 100000 in
set_option maxHeartbeats 2000000 in
theorem toStrokeS_rec (vs : Nat → Value) (g : Nat → Dat) (w : World) (hq : costRec 1 g ≤ 1048576) (hr : ReadsRec w 1 vs g) (ht : tyrStrokeS g) :
    Calls Try.prog 56 #[vs 0] w fun e w' => ∃ us : Nat → Value, e = .returned (us 0) ∧ OwnRec w' 1 us g (iv w.heap.size w'.heap.size) ∧ Below w.heap.size w w' := by
  have ht0 : tyStrokeS (g 0) := ht
  have hy0 := ht0
  obtain ⟨n0, f0, e0, -⟩ := ht0
  rw [e0] at hy0
  have r0 := hr 0 (by omega)
  rw [e0] at r0
  obtain ⟨A0, c0, v0, hm0, ra0⟩ := r0.sl_inv
  have hq0 : cost (.sl n0 1 f0) ≤ 1048576 := by rw [← e0]; exact Nat.le_trans (Nat.le_trans (Nat.le_add_left _ _) (sumTo_lt (fun j => cost (g j)) (show 0 < 1 by omega))) hq
  rw [v0]
  refine (toStrokeS_calls A0 n0 c0 f0 w hq0 hm0 ra0 hy0).mono ?_
  rintro e w' ⟨G0, rfl, ho0, hb⟩
  refine ⟨fun _ => .slice (some ⟨G0, 0, none⟩) n0 n0, rfl, ⟨fun j => if j = 0 then iv w.heap.size w'.heap.size else fun _ => False, fun j hj => ?_, fun j x hj hx => ?_, fun i j x hi hj hx hx' => ?_⟩, hb⟩
  · obtain rfl : j = 0 := by omega
    · rw [e0]; exact ho0
  · obtain rfl : j = 0 := by omega
    · have h1 := (show iv w.heap.size w'.heap.size x from hx); unfold iv at *; omega
  · omega

set_option maxRecDepth 100000 in
set_option maxHeartbeats 2000000 in
theorem eqStrokeS_rec (vs us : Nat → Value) (g : Nat → Dat) (w : World) (hr : ReadsRec w 1 vs g) (hs : ReadsRec w 1 us g) (ht : tyrStrokeS g) :
    Calls Try.prog 59 #[vs 0, us 0] w fun e w' => e = .returned (.bool true) ∧ Below w.heap.size w w' := by
  have ht0 : tyStrokeS (g 0) := ht
  have hy0 := ht0
  obtain ⟨n0, f0, e0, -⟩ := ht0
  rw [e0] at hy0
  have r0 := hr 0 (by omega)
  rw [e0] at r0
  obtain ⟨A0, c0, v0, hm0, ra0⟩ := r0.sl_inv
  have r0' := hs 0 (by omega)
  rw [e0] at r0'
  obtain ⟨A0', c0', v0', hm0', ra0'⟩ := r0'.sl_inv
  rw [v0]
  rw [v0']
  exact eqStrokeS_same A0 A0' n0 c0 c0' f0 w hm0 ra0 ra0' hy0

set_option maxRecDepth 100000 in
set_option maxHeartbeats 2000000 in
theorem markStrokeS_rec (vs : Nat → Value) (g : Nat → Dat) (F : Nat → Prop) (K : Nat) (z : Int) (w : World) (hz : z = (K : Int)) (h1 : 1 ≤ K) (hcap : K + cntRec 1 g ≤ 1000000000000) (ho : OwnRec w 1 vs g F) (ht : tyrStrokeS g) :
    Calls Try.prog 60 #[vs 0, .int .i64 z] w fun e w' => e = .returned (.int .i64 ((K + cntRec 1 g : Nat) : Int)) ∧ OwnRec w' 1 vs (markRec g K) F ∧ OnlyF F w w' := by
  have hr := ho.reads
  obtain ⟨fp, o1, o2, o3⟩ := ho
  have ht0 : tyStrokeS (g 0) := ht
  have hy0 := ht0
  obtain ⟨n0, f0, e0, -⟩ := ht0
  rw [e0] at hy0
  have r0 := hr 0 (by omega)
  rw [e0] at r0
  obtain ⟨A0, c0, v0, hm0, ra0⟩ := r0.sl_inv
  have hC : cntRec 1 g = cnt (.sl n0 1 f0) := by simp only [cntRec, sumTo, e0, cntS]; try omega
  rw [hC] at hcap ⊢
  have p0 := o1 0 (by omega)
  rw [v0, e0] at p0
  have m0 : markRec g K 0 = mark mt (.sl n0 1 f0) (K) := by simp only [markRec, markS, sumTo, cntS, e0]; congr 1; try omega
  rw [v0]
  refine (markStrokeS_calls A0 n0 c0 K z f0 (fp 0) w hz h1 hcap hm0 hy0 p0).mono ?_
  rintro e w' ⟨rfl, q0, hw⟩
  refine ⟨ret_int (by omega), ⟨fp, fun j hj => ?_, fun j x hj hx => ⟨(o2 j x hj hx).1, Nat.lt_of_lt_of_le (o2 j x hj hx).2 hw.size⟩, o3⟩, hw.mono fun x hx => ?_⟩
  · obtain rfl : j = 0 := by omega
    · rw [v0, m0]; exact q0
  · exact (o2 0 x (by omega) hx).1

set_option maxRecDepth 100000 in
set_option maxHeartbeats 2000000 in
theorem heldStrokeS_rec (vs : Nat → Value) (g : Nat → Dat) (K : Nat) (z : Int) (w : World) (hz : z = (K : Int)) (h1 : 1 ≤ K) (hcap : K + cntRec 1 g ≤ 1000000000000) (hr : ReadsRec w 1 vs (markRec g K)) (ht : tyrStrokeS g) :
    Calls Try.prog 88 #[vs 0, .int .i64 z] w fun e w' => e = .returned (.int .i64 ((K + cntRec 1 g : Nat) : Int)) ∧ Below w.heap.size w w' := by
  have ht0 : tyStrokeS (g 0) := ht
  have hy0 := ht0
  obtain ⟨n0, f0, e0, -⟩ := ht0
  rw [e0] at hy0
  have hC : cntRec 1 g = cnt (.sl n0 1 f0) := by simp only [cntRec, sumTo, e0, cntS]; try omega
  rw [hC] at hcap ⊢
  have m0 : markRec g K 0 = mark mt (.sl n0 1 f0) (K) := by simp only [markRec, markS, sumTo, cntS, e0]; congr 1; try omega
  have r0 := hr 0 (by omega)
  rw [m0] at r0
  obtain ⟨A0, c0, v0, hm0, -⟩ := Reads.sl_inv r0
  rw [v0] at r0
  rw [v0]
  refine (heldStrokeS_calls A0 n0 c0 K z f0 w hz h1 hcap hm0 hy0 r0).mono ?_
  rintro e w' ⟨rfl, hb⟩
  exact ⟨ret_int (by omega), hb⟩

set_option maxRecDepth 100000 in
set_option maxHeartbeats 2000000 in
theorem szInk_rec (vs : Nat → Value) (g : Nat → Dat) (l : Int) (w : World) (hl : 0 ≤ l) (hl2 : l ≤ 1048576) (hr : ReadsRec w 1 vs g) (ht : tyrInk g) :
    Calls Try.prog 18 #[.agg #[vs 0], .int .i64 l] w fun e w' => e = .returned (.int .i64 (left l (costRec 1 g))) ∧ Below w.heap.size w w' := by
  have ht0 : tyStrokeS (g 0) := ht
  have hy0 := ht0
  obtain ⟨n0, f0, e0, -⟩ := ht0
  rw [e0] at hy0
  have r0 := hr 0 (by omega)
  rw [e0] at r0
  obtain ⟨A0, c0, v0, hm0, ra0⟩ := r0.sl_inv
  rw [v0]
  refine (szInk_calls A0 n0 c0 f0 l w hl hl2 hm0 ra0 hy0).mono ?_
  rintro e w' ⟨rfl, hb⟩
  refine ⟨ret_int (congrArg (left l) ?_), hb⟩
  simp only [costRec, sumTo, e0]
  try simp only [cost]
  try omega

set_option maxRecDepth 100000 in
set_option maxHeartbeats 2000000 in
theorem toInk_rec (vs : Nat → Value) (g : Nat → Dat) (w : World) (hq : costRec 1 g ≤ 1048576) (hr : ReadsRec w 1 vs g) (ht : tyrInk g) :
    Calls Try.prog 20 #[.agg #[vs 0]] w fun e w' => ∃ us : Nat → Value, e = .returned (.agg #[us 0]) ∧ OwnRec w' 1 us g (iv w.heap.size w'.heap.size) ∧ Below w.heap.size w w' := by
  have ht0 : tyStrokeS (g 0) := ht
  have hy0 := ht0
  obtain ⟨n0, f0, e0, -⟩ := ht0
  rw [e0] at hy0
  have r0 := hr 0 (by omega)
  rw [e0] at r0
  obtain ⟨A0, c0, v0, hm0, ra0⟩ := r0.sl_inv
  have hq0 : cost (.sl n0 1 f0) ≤ 1048576 := by rw [← e0]; exact Nat.le_trans (Nat.le_trans (Nat.le_add_left _ _) (sumTo_lt (fun j => cost (g j)) (show 0 < 1 by omega))) hq
  rw [v0]
  refine (toInk_calls A0 n0 c0 f0 w hq0 hm0 ra0 hy0).mono ?_
  rintro e w' ⟨G0, rfl, ho0, hl0, hb⟩
  refine ⟨fun _ => .slice (some ⟨G0, 0, none⟩) n0 n0, rfl, ⟨fun j => if j = 0 then iv w.heap.size w'.heap.size else fun _ => False, fun j hj => ?_, fun j x hj hx => ?_, fun i j x hi hj hx hx' => ?_⟩, hb⟩
  · obtain rfl : j = 0 := by omega
    · rw [e0]; exact ho0
  · obtain rfl : j = 0 := by omega
    · have h1 := (show iv w.heap.size w'.heap.size x from hx); unfold iv at *; omega
  · omega

set_option maxRecDepth 100000 in
set_option maxHeartbeats 2000000 in
theorem eqInk_rec (vs us : Nat → Value) (g : Nat → Dat) (w : World) (hr : ReadsRec w 1 vs g) (hs : ReadsRec w 1 us g) (ht : tyrInk g) :
    Calls Try.prog 22 #[.agg #[vs 0], .agg #[us 0]] w fun e w' => e = .returned (.bool true) ∧ Below w.heap.size w w' := by
  have ht0 : tyStrokeS (g 0) := ht
  have hy0 := ht0
  obtain ⟨n0, f0, e0, -⟩ := ht0
  rw [e0] at hy0
  have r0 := hr 0 (by omega)
  rw [e0] at r0
  obtain ⟨A0, c0, v0, hm0, ra0⟩ := r0.sl_inv
  have r0' := hs 0 (by omega)
  rw [e0] at r0'
  obtain ⟨A0', c0', v0', hm0', ra0'⟩ := r0'.sl_inv
  rw [v0]
  rw [v0']
  exact eqInk_same A0 n0 c0 f0 A0' c0' w hm0 ra0 ra0' hy0

set_option maxRecDepth 100000 in
set_option maxHeartbeats 2000000 in
theorem markInk_rec (vs : Nat → Value) (g : Nat → Dat) (F : Nat → Prop) (K : Nat) (z : Int) (w : World) (hz : z = (K : Int)) (h1 : 1 ≤ K) (hcap : K + cntRec 1 g ≤ 1000000000000) (ho : OwnRec w 1 vs g F) (ht : tyrInk g) :
    Calls Try.prog 23 #[.agg #[vs 0], .int .i64 z] w fun e w' => e = .returned (.int .i64 ((K + cntRec 1 g : Nat) : Int)) ∧ OwnRec w' 1 vs (markRec g K) F ∧ OnlyF F w w' := by
  have hr := ho.reads
  obtain ⟨fp, o1, o2, o3⟩ := ho
  have ht0 : tyStrokeS (g 0) := ht
  have hy0 := ht0
  obtain ⟨n0, f0, e0, -⟩ := ht0
  rw [e0] at hy0
  have r0 := hr 0 (by omega)
  rw [e0] at r0
  obtain ⟨A0, c0, v0, hm0, ra0⟩ := r0.sl_inv
  have hC : cntRec 1 g = cnt (.sl n0 1 f0) := by simp only [cntRec, sumTo, e0, cntS]; try omega
  rw [hC] at hcap ⊢
  have p0 := o1 0 (by omega)
  rw [v0, e0] at p0
  have m0 : markRec g K 0 = mark mt (.sl n0 1 f0) (K) := by simp only [markRec, markS, sumTo, cntS, e0]; congr 1; try omega
  rw [v0]
  refine (markInk_calls A0 n0 c0 f0 (fp 0) K z w hz h1 (by omega) hm0 hy0 p0 (fun x hx => (o2 0 x (by omega) hx).2) ).mono ?_
  rintro e w' ⟨rfl, q0, hw⟩
  refine ⟨ret_int (by omega), ⟨fp, fun j hj => ?_, fun j x hj hx => ⟨(o2 j x hj hx).1, Nat.lt_of_lt_of_le (o2 j x hj hx).2 hw.size⟩, o3⟩, hw.mono fun x hx => ?_⟩
  · obtain rfl : j = 0 := by omega
    · rw [v0, m0]; exact q0
  · exact (o2 0 x (by omega) hx).1

set_option maxRecDepth 100000 in
set_option maxHeartbeats 2000000 in
theorem heldInk_rec (vs : Nat → Value) (g : Nat → Dat) (K : Nat) (z : Int) (w : World) (hz : z = (K : Int)) (h1 : 1 ≤ K) (hcap : K + cntRec 1 g ≤ 1000000000000) (hr : ReadsRec w 1 vs (markRec g K)) (ht : tyrInk g) :
    Calls Try.prog 38 #[.agg #[vs 0], .int .i64 z] w fun e w' => e = .returned (.int .i64 ((K + cntRec 1 g : Nat) : Int)) ∧ Below w.heap.size w w' := by
  have ht0 : tyStrokeS (g 0) := ht
  have hy0 := ht0
  obtain ⟨n0, f0, e0, -⟩ := ht0
  rw [e0] at hy0
  have hC : cntRec 1 g = cnt (.sl n0 1 f0) := by simp only [cntRec, sumTo, e0, cntS]; try omega
  rw [hC] at hcap ⊢
  have m0 : markRec g K 0 = mark mt (.sl n0 1 f0) (K) := by simp only [markRec, markS, sumTo, cntS, e0]; congr 1; try omega
  have r0 := hr 0 (by omega)
  rw [m0] at r0
  obtain ⟨A0, c0, v0, hm0, -⟩ := Reads.sl_inv r0
  rw [v0] at r0
  rw [v0]
  refine (heldInk_calls A0 n0 c0 f0 K z w hz h1 (by omega) hm0 hy0 r0).mono ?_
  rintro e w' ⟨rfl, hb⟩
  exact ⟨ret_int (by omega), hb⟩

set_option maxRecDepth 100000 in
set_option maxHeartbeats 2000000 in
theorem szChannel_rec (vs : Nat → Value) (g : Nat → Dat) (l : Int) (w : World) (hl : 0 ≤ l) (hl2 : l ≤ 1048576) (hr : ReadsRec w 4 vs g) (ht : tyrChannel g) :
    Calls Try.prog 89 #[.agg #[vs 0, vs 1, vs 2, vs 3], .int .i64 l] w fun e w' => e = .returned (.int .i64 (left l (costRec 4 g))) ∧ Below w.heap.size w w' := by
  obtain ⟨⟨s0, e0⟩, ⟨s1, e1⟩, ⟨x2, e2⟩, ⟨x3, e3⟩⟩ := ht
  have r0 := hr 0 (by omega)
  rw [e0] at r0
  obtain ⟨v0, hs0⟩ := r0.str_inv
  have r1 := hr 1 (by omega)
  rw [e1] at r1
  obtain ⟨v1, hs1⟩ := r1.str_inv
  have r2 := hr 2 (by omega)
  rw [e2] at r2
  obtain ⟨v2, hi2⟩ := r2.int_inv
  have r3 := hr 3 (by omega)
  rw [e3] at r3
  obtain ⟨v3, hi3⟩ := r3.int_inv
  rw [v0, v1, v2, v3]
  refine (szChannel_calls s0 s1 x2 x3 l w hl hl2 hs0 hs1  ).mono ?_
  rintro e w' ⟨rfl, hb⟩
  refine ⟨ret_int (congrArg (left l) ?_), hb⟩
  simp only [costRec, sumTo, e0, e1, e2, e3]
  try simp only [cost]
  try omega

set_option maxRecDepth 100000 in
set_option maxHeartbeats 2000000 in
theorem toChannel_rec (vs : Nat → Value) (g : Nat → Dat) (w : World) (hq : costRec 4 g ≤ 1048576) (hr : ReadsRec w 4 vs g) (ht : tyrChannel g) :
    Calls Try.prog 93 #[.agg #[vs 0, vs 1, vs 2, vs 3]] w fun e w' => ∃ us : Nat → Value, e = .returned (.agg #[us 0, us 1, us 2, us 3]) ∧ OwnRec w' 4 us g (iv w.heap.size w'.heap.size) ∧ Below w.heap.size w w' := by
  obtain ⟨⟨s0, e0⟩, ⟨s1, e1⟩, ⟨x2, e2⟩, ⟨x3, e3⟩⟩ := ht
  have r0 := hr 0 (by omega)
  rw [e0] at r0
  obtain ⟨v0, hs0⟩ := r0.str_inv
  have r1 := hr 1 (by omega)
  rw [e1] at r1
  obtain ⟨v1, hs1⟩ := r1.str_inv
  have r2 := hr 2 (by omega)
  rw [e2] at r2
  obtain ⟨v2, hi2⟩ := r2.int_inv
  have r3 := hr 3 (by omega)
  rw [e3] at r3
  obtain ⟨v3, hi3⟩ := r3.int_inv
  rw [v0, v1, v2, v3]
  refine (toChannel_calls s0 s1 x2 x3 w ).mono ?_
  rintro e w' ⟨rfl, hb⟩
  have hl9 := hb.size
  refine ⟨fun j => if j = 0 then .string s0 else if j = 1 then .string s1 else if j = 2 then .int .i64 x2 else if j = 3 then .int .i64 x3 else .bool false, rfl, ⟨fun j => fun _ => False, fun j hj => ?_, fun j x hj hx => ?_, fun i j x hi hj hx hx' => ?_⟩, hb⟩
  · rcases (by omega : j = 0 ∨ j = 1 ∨ j = 2 ∨ j = 3) with rfl | rfl | rfl | rfl
    · rw [e0]; exact .str _ _ hs0
    · rw [e1]; exact .str _ _ hs1
    · rw [e2]; exact .int _ _ hi2
    · rw [e3]; exact .int _ _ hi3
  · rcases (by omega : j = 0 ∨ j = 1 ∨ j = 2 ∨ j = 3) with rfl | rfl | rfl | rfl
    · exact hx.elim
    · exact hx.elim
    · exact hx.elim
    · exact hx.elim
  · rcases (by omega : i = 0 ∨ i = 1 ∨ i = 2 ∨ i = 3) with rfl | rfl | rfl | rfl
    · rcases (by omega : j = 0 ∨ j = 1 ∨ j = 2 ∨ j = 3) with rfl | rfl | rfl | rfl
      · rfl
      · exact hx.elim
      · exact hx.elim
      · exact hx.elim
    · rcases (by omega : j = 0 ∨ j = 1 ∨ j = 2 ∨ j = 3) with rfl | rfl | rfl | rfl
      · exact hx.elim
      · rfl
      · exact hx.elim
      · exact hx.elim
    · rcases (by omega : j = 0 ∨ j = 1 ∨ j = 2 ∨ j = 3) with rfl | rfl | rfl | rfl
      · exact hx.elim
      · exact hx.elim
      · rfl
      · exact hx.elim
    · rcases (by omega : j = 0 ∨ j = 1 ∨ j = 2 ∨ j = 3) with rfl | rfl | rfl | rfl
      · exact hx.elim
      · exact hx.elim
      · exact hx.elim
      · rfl

set_option maxRecDepth 100000 in
set_option maxHeartbeats 2000000 in
theorem eqChannel_rec (vs us : Nat → Value) (g : Nat → Dat) (w : World) (hr : ReadsRec w 4 vs g) (hs : ReadsRec w 4 us g) (ht : tyrChannel g) :
    Calls Try.prog 96 #[.agg #[vs 0, vs 1, vs 2, vs 3], .agg #[us 0, us 1, us 2, us 3]] w fun e w' => e = .returned (.bool true) ∧ Below w.heap.size w w' := by
  obtain ⟨⟨s0, e0⟩, ⟨s1, e1⟩, ⟨x2, e2⟩, ⟨x3, e3⟩⟩ := ht
  have r0 := hr 0 (by omega)
  rw [e0] at r0
  obtain ⟨v0, hs0⟩ := r0.str_inv
  have r1 := hr 1 (by omega)
  rw [e1] at r1
  obtain ⟨v1, hs1⟩ := r1.str_inv
  have r2 := hr 2 (by omega)
  rw [e2] at r2
  obtain ⟨v2, hi2⟩ := r2.int_inv
  have r3 := hr 3 (by omega)
  rw [e3] at r3
  obtain ⟨v3, hi3⟩ := r3.int_inv
  have r0' := hs 0 (by omega)
  rw [e0] at r0'
  obtain ⟨v0', hs0'⟩ := r0'.str_inv
  have r1' := hs 1 (by omega)
  rw [e1] at r1'
  obtain ⟨v1', hs1'⟩ := r1'.str_inv
  have r2' := hs 2 (by omega)
  rw [e2] at r2'
  obtain ⟨v2', hi2'⟩ := r2'.int_inv
  have r3' := hs 3 (by omega)
  rw [e3] at r3'
  obtain ⟨v3', hi3'⟩ := r3'.int_inv
  rw [v0, v1, v2, v3]
  rw [v0', v1', v2', v3']
  exact eqChannel_same s0 s1 x2 x3 w 

set_option maxRecDepth 100000 in
set_option maxHeartbeats 2000000 in
theorem szChannelS_rec (vs : Nat → Value) (g : Nat → Dat) (l : Int) (w : World) (hl : 0 ≤ l) (hl2 : l ≤ 1048576) (hr : ReadsRec w 1 vs g) (ht : tyrChannelS g) :
    Calls Try.prog 39 #[vs 0, .int .i64 l] w fun e w' => e = .returned (.int .i64 (left l (costRec 1 g))) ∧ Below w.heap.size w w' := by
  have ht0 : tyChannelS (g 0) := ht
  have hy0 := ht0
  obtain ⟨n0, f0, e0, -⟩ := ht0
  rw [e0] at hy0
  have r0 := hr 0 (by omega)
  rw [e0] at r0
  obtain ⟨A0, c0, v0, hm0, ra0⟩ := r0.sl_inv
  rw [v0]
  refine (szChannelS_calls A0 n0 c0 f0 l w hl hl2 hm0 ra0 hy0).mono ?_
  rintro e w' ⟨rfl, hb⟩
  refine ⟨ret_int (congrArg (left l) ?_), hb⟩
  simp only [costRec, sumTo, e0]
  try simp only [cost]
  try omega

set_option maxRecDepth 100000 in
set_option maxHeartbeats 2000000 in
theorem toChannelS_rec (vs : Nat → Value) (g : Nat → Dat) (w : World) (hq : costRec 1 g ≤ 1048576) (hr : ReadsRec w 1 vs g) (ht : tyrChannelS g) :
    Calls Try.prog 44 #[vs 0] w fun e w' => ∃ us : Nat → Value, e = .returned (us 0) ∧ OwnRec w' 1 us g (iv w.heap.size w'.heap.size) ∧ Below w.heap.size w w' := by
  have ht0 : tyChannelS (g 0) := ht
  have hy0 := ht0
  obtain ⟨n0, f0, e0, -⟩ := ht0
  rw [e0] at hy0
  have r0 := hr 0 (by omega)
  rw [e0] at r0
  obtain ⟨A0, c0, v0, hm0, ra0⟩ := r0.sl_inv
  have hq0 : cost (.sl n0 4 f0) ≤ 1048576 := by rw [← e0]; exact Nat.le_trans (Nat.le_trans (Nat.le_add_left _ _) (sumTo_lt (fun j => cost (g j)) (show 0 < 1 by omega))) hq
  rw [v0]
  refine (toChannelS_calls A0 n0 c0 f0 w hq0 hm0 ra0 hy0).mono ?_
  rintro e w' ⟨G0, rfl, ho0, hb⟩
  refine ⟨fun _ => .slice (some ⟨G0, 0, none⟩) n0 n0, rfl, ⟨fun j => if j = 0 then iv w.heap.size w'.heap.size else fun _ => False, fun j hj => ?_, fun j x hj hx => ?_, fun i j x hi hj hx hx' => ?_⟩, hb⟩
  · obtain rfl : j = 0 := by omega
    · rw [e0]; exact ho0
  · obtain rfl : j = 0 := by omega
    · have h1 := (show iv w.heap.size w'.heap.size x from hx); unfold iv at *; omega
  · omega

set_option maxRecDepth 100000 in
set_option maxHeartbeats 2000000 in
theorem eqChannelS_rec (vs us : Nat → Value) (g : Nat → Dat) (w : World) (hr : ReadsRec w 1 vs g) (hs : ReadsRec w 1 us g) (ht : tyrChannelS g) :
    Calls Try.prog 48 #[vs 0, us 0] w fun e w' => e = .returned (.bool true) ∧ Below w.heap.size w w' := by
  have ht0 : tyChannelS (g 0) := ht
  have hy0 := ht0
  obtain ⟨n0, f0, e0, -⟩ := ht0
  rw [e0] at hy0
  have r0 := hr 0 (by omega)
  rw [e0] at r0
  obtain ⟨A0, c0, v0, hm0, ra0⟩ := r0.sl_inv
  have r0' := hs 0 (by omega)
  rw [e0] at r0'
  obtain ⟨A0', c0', v0', hm0', ra0'⟩ := r0'.sl_inv
  rw [v0]
  rw [v0']
  exact eqChannelS_same A0 A0' n0 c0 c0' f0 w hm0 ra0 ra0' hy0

set_option maxRecDepth 100000 in
set_option maxHeartbeats 2000000 in
theorem markChannelS_rec (vs : Nat → Value) (g : Nat → Dat) (F : Nat → Prop) (K : Nat) (z : Int) (w : World) (hz : z = (K : Int)) (h1 : 1 ≤ K) (hcap : K + cntRec 1 g ≤ 1000000000000) (ho : OwnRec w 1 vs g F) (ht : tyrChannelS g) :
    Calls Try.prog 51 #[vs 0, .int .i64 z] w fun e w' => e = .returned (.int .i64 ((K + cntRec 1 g : Nat) : Int)) ∧ OwnRec w' 1 vs (markRec g K) F ∧ OnlyF F w w' := by
  have hr := ho.reads
  obtain ⟨fp, o1, o2, o3⟩ := ho
  have ht0 : tyChannelS (g 0) := ht
  have hy0 := ht0
  obtain ⟨n0, f0, e0, -⟩ := ht0
  rw [e0] at hy0
  have r0 := hr 0 (by omega)
  rw [e0] at r0
  obtain ⟨A0, c0, v0, hm0, ra0⟩ := r0.sl_inv
  have hC : cntRec 1 g = cnt (.sl n0 4 f0) := by simp only [cntRec, sumTo, e0, cntS]; try omega
  rw [hC] at hcap ⊢
  have p0 := o1 0 (by omega)
  rw [v0, e0] at p0
  have m0 : markRec g K 0 = mark mt (.sl n0 4 f0) (K) := by simp only [markRec, markS, sumTo, cntS, e0]; congr 1; try omega
  rw [v0]
  refine (markChannelS_calls A0 n0 c0 K z f0 (fp 0) w hz h1 hcap hm0 hy0 p0).mono ?_
  rintro e w' ⟨rfl, q0, hw⟩
  refine ⟨ret_int (by omega), ⟨fp, fun j hj => ?_, fun j x hj hx => ⟨(o2 j x hj hx).1, Nat.lt_of_lt_of_le (o2 j x hj hx).2 hw.size⟩, o3⟩, hw.mono fun x hx => ?_⟩
  · obtain rfl : j = 0 := by omega
    · rw [v0, m0]; exact q0
  · exact (o2 0 x (by omega) hx).1

set_option maxRecDepth 100000 in
set_option maxHeartbeats 2000000 in
theorem heldChannelS_rec (vs : Nat → Value) (g : Nat → Dat) (K : Nat) (z : Int) (w : World) (hz : z = (K : Int)) (h1 : 1 ≤ K) (hcap : K + cntRec 1 g ≤ 1000000000000) (hr : ReadsRec w 1 vs (markRec g K)) (ht : tyrChannelS g) :
    Calls Try.prog 61 #[vs 0, .int .i64 z] w fun e w' => e = .returned (.int .i64 ((K + cntRec 1 g : Nat) : Int)) ∧ Below w.heap.size w w' := by
  have ht0 : tyChannelS (g 0) := ht
  have hy0 := ht0
  obtain ⟨n0, f0, e0, -⟩ := ht0
  rw [e0] at hy0
  have hC : cntRec 1 g = cnt (.sl n0 4 f0) := by simp only [cntRec, sumTo, e0, cntS]; try omega
  rw [hC] at hcap ⊢
  have m0 : markRec g K 0 = mark mt (.sl n0 4 f0) (K) := by simp only [markRec, markS, sumTo, cntS, e0]; congr 1; try omega
  have r0 := hr 0 (by omega)
  rw [m0] at r0
  obtain ⟨A0, c0, v0, hm0, -⟩ := Reads.sl_inv r0
  rw [v0] at r0
  rw [v0]
  refine (heldChannelS_calls A0 n0 c0 K z f0 w hz h1 hcap hm0 hy0 r0).mono ?_
  rintro e w' ⟨rfl, hb⟩
  exact ⟨ret_int (by omega), hb⟩

set_option maxRecDepth 100000 in
set_option maxHeartbeats 2000000 in
theorem szInt64S_rec (vs : Nat → Value) (g : Nat → Dat) (l : Int) (w : World) (hl : 0 ≤ l) (hl2 : l ≤ 1048576) (hr : ReadsRec w 1 vs g) (ht : tyrInt64S g) :
    Calls Try.prog 170 #[vs 0, .int .i64 l] w fun e w' => e = .returned (.int .i64 (left l (costRec 1 g))) ∧ Below w.heap.size w w' := by
  have ht0 : tyInt64S (g 0) := ht
  have hy0 := ht0
  obtain ⟨n0, f0, e0, -⟩ := ht0
  rw [e0] at hy0
  have r0 := hr 0 (by omega)
  rw [e0] at r0
  obtain ⟨A0, c0, v0, hm0, ra0⟩ := r0.sl_inv
  rw [v0]
  refine (szInt64S_calls A0 n0 c0 f0 l w hl hl2 hm0 ra0 hy0).mono ?_
  rintro e w' ⟨rfl, hb⟩
  refine ⟨ret_int (congrArg (left l) ?_), hb⟩
  simp only [costRec, sumTo, e0]
  try simp only [cost]
  try omega

set_option maxRecDepth 100000 in
set_option maxHeartbeats 2000000 in
theorem toInt64S_rec (vs : Nat → Value) (g : Nat → Dat) (w : World) (hq : costRec 1 g ≤ 1048576) (hr : ReadsRec w 1 vs g) (ht : tyrInt64S g) :
    Calls Try.prog 171 #[vs 0] w fun e w' => ∃ us : Nat → Value, e = .returned (us 0) ∧ OwnRec w' 1 us g (iv w.heap.size w'.heap.size) ∧ Below w.heap.size w w' := by
  have ht0 : tyInt64S (g 0) := ht
  have hy0 := ht0
  obtain ⟨n0, f0, e0, -⟩ := ht0
  rw [e0] at hy0
  have r0 := hr 0 (by omega)
  rw [e0] at r0
  obtain ⟨A0, c0, v0, hm0, ra0⟩ := r0.sl_inv
  have hq0 : cost (.sl n0 1 f0) ≤ 1048576 := by rw [← e0]; exact Nat.le_trans (Nat.le_trans (Nat.le_add_left _ _) (sumTo_lt (fun j => cost (g j)) (show 0 < 1 by omega))) hq
  rw [v0]
  refine (toInt64S_calls A0 n0 c0 f0 w hq0 hm0 ra0 hy0).mono ?_
  rintro e w' ⟨G0, rfl, ho0, hb⟩
  refine ⟨fun _ => .slice (some ⟨G0, 0, none⟩) n0 n0, rfl, ⟨fun j => if j = 0 then iv w.heap.size w'.heap.size else fun _ => False, fun j hj => ?_, fun j x hj hx => ?_, fun i j x hi hj hx hx' => ?_⟩, hb⟩
  · obtain rfl : j = 0 := by omega
    · rw [e0]; exact ho0
  · obtain rfl : j = 0 := by omega
    · have h1 := (show iv w.heap.size w'.heap.size x from hx); unfold iv at *; omega
  · omega

set_option maxRecDepth 100000 in
set_option maxHeartbeats 2000000 in
theorem eqInt64S_rec (vs us : Nat → Value) (g : Nat → Dat) (w : World) (hr : ReadsRec w 1 vs g) (hs : ReadsRec w 1 us g) (ht : tyrInt64S g) :
    Calls Try.prog 13 #[vs 0, us 0] w fun e w' => e = .returned (.bool true) ∧ Below w.heap.size w w' := by
  have ht0 : tyInt64S (g 0) := ht
  have hy0 := ht0
  obtain ⟨n0, f0, e0, -⟩ := ht0
  rw [e0] at hy0
  have r0 := hr 0 (by omega)
  rw [e0] at r0
  obtain ⟨A0, c0, v0, hm0, ra0⟩ := r0.sl_inv
  have r0' := hs 0 (by omega)
  rw [e0] at r0'
  obtain ⟨A0', c0', v0', hm0', ra0'⟩ := r0'.sl_inv
  rw [v0]
  rw [v0']
  exact eqInt64S_same A0 A0' n0 c0 c0' f0 w hm0 ra0 ra0' hy0

set_option maxRecDepth 100000 in
set_option maxHeartbeats 2000000 in
theorem markInt64S_rec (vs : Nat → Value) (g : Nat → Dat) (F : Nat → Prop) (K : Nat) (z : Int) (w : World) (hz : z = (K : Int)) (h1 : 1 ≤ K) (hcap : K + cntRec 1 g ≤ 1000000000000) (ho : OwnRec w 1 vs g F) (ht : tyrInt64S g) :
    Calls Try.prog 16 #[vs 0, .int .i64 z] w fun e w' => e = .returned (.int .i64 ((K + cntRec 1 g : Nat) : Int)) ∧ OwnRec w' 1 vs (markRec g K) F ∧ OnlyF F w w' := by
  have hr := ho.reads
  obtain ⟨fp, o1, o2, o3⟩ := ho
  have ht0 : tyInt64S (g 0) := ht
  have hy0 := ht0
  obtain ⟨n0, f0, e0, -⟩ := ht0
  rw [e0] at hy0
  have r0 := hr 0 (by omega)
  rw [e0] at r0
  obtain ⟨A0, c0, v0, hm0, ra0⟩ := r0.sl_inv
  have hC : cntRec 1 g = cnt (.sl n0 1 f0) := by simp only [cntRec, sumTo, e0, cntS]; try omega
  rw [hC] at hcap ⊢
  have p0 := o1 0 (by omega)
  rw [v0, e0] at p0
  have m0 : markRec g K 0 = mark mt (.sl n0 1 f0) (K) := by simp only [markRec, markS, sumTo, cntS, e0]; congr 1; try omega
  rw [v0]
  refine (markInt64S_calls A0 n0 c0 K z f0 (fp 0) w hz h1 hcap hm0 hy0 p0).mono ?_
  rintro e w' ⟨rfl, q0, hw⟩
  refine ⟨ret_int (by omega), ⟨fp, fun j hj => ?_, fun j x hj hx => ⟨(o2 j x hj hx).1, Nat.lt_of_lt_of_le (o2 j x hj hx).2 hw.size⟩, o3⟩, hw.mono fun x hx => ?_⟩
  · obtain rfl : j = 0 := by omega
    · rw [v0, m0]; exact q0
  · exact (o2 0 x (by omega) hx).1

set_option maxRecDepth 100000 in
set_option maxHeartbeats 2000000 in
theorem heldInt64S_rec (vs : Nat → Value) (g : Nat → Dat) (K : Nat) (z : Int) (w : World) (hz : z = (K : Int)) (h1 : 1 ≤ K) (hcap : K + cntRec 1 g ≤ 1000000000000) (hr : ReadsRec w 1 vs (markRec g K)) (ht : tyrInt64S g) :
    Calls Try.prog 17 #[vs 0, .int .i64 z] w fun e w' => e = .returned (.int .i64 ((K + cntRec 1 g : Nat) : Int)) ∧ Below w.heap.size w w' := by
  have ht0 : tyInt64S (g 0) := ht
  have hy0 := ht0
  obtain ⟨n0, f0, e0, -⟩ := ht0
  rw [e0] at hy0
  have hC : cntRec 1 g = cnt (.sl n0 1 f0) := by simp only [cntRec, sumTo, e0, cntS]; try omega
  rw [hC] at hcap ⊢
  have m0 : markRec g K 0 = mark mt (.sl n0 1 f0) (K) := by simp only [markRec, markS, sumTo, cntS, e0]; congr 1; try omega
  have r0 := hr 0 (by omega)
  rw [m0] at r0
  obtain ⟨A0, c0, v0, hm0, -⟩ := Reads.sl_inv r0
  rw [v0] at r0
  rw [v0]
  refine (heldInt64S_calls A0 n0 c0 K z f0 w hz h1 hcap hm0 hy0 r0).mono ?_
  rintro e w' ⟨rfl, hb⟩
  exact ⟨ret_int (by omega), hb⟩

set_option maxRecDepth 100000 in
set_option maxHeartbeats 2000000 in
theorem szInt64SS_rec (vs : Nat → Value) (g : Nat → Dat) (l : Int) (w : World) (hl : 0 ≤ l) (hl2 : l ≤ 1048576) (hr : ReadsRec w 1 vs g) (ht : tyrInt64SS g) :
    Calls Try.prog 144 #[vs 0, .int .i64 l] w fun e w' => e = .returned (.int .i64 (left l (costRec 1 g))) ∧ Below w.heap.size w w' := by
  have ht0 : tyInt64SS (g 0) := ht
  have hy0 := ht0
  obtain ⟨n0, f0, e0, -⟩ := ht0
  rw [e0] at hy0
  have r0 := hr 0 (by omega)
  rw [e0] at r0
  obtain ⟨A0, c0, v0, hm0, ra0⟩ := r0.sl_inv
  rw [v0]
  refine (szInt64SS_calls A0 n0 c0 f0 l w hl hl2 hm0 ra0 hy0).mono ?_
  rintro e w' ⟨rfl, hb⟩
  refine ⟨ret_int (congrArg (left l) ?_), hb⟩
  simp only [costRec, sumTo, e0]
  try simp only [cost]
  try omega

set_option maxRecDepth 100000 in
set_option maxHeartbeats 2000000 in
theorem toInt64SS_rec (vs : Nat → Value) (g : Nat → Dat) (w : World) (hq : costRec 1 g ≤ 1048576) (hr : ReadsRec w 1 vs g) (ht : tyrInt64SS g) :
    Calls Try.prog 146 #[vs 0] w fun e w' => ∃ us : Nat → Value, e = .returned (us 0) ∧ OwnRec w' 1 us g (iv w.heap.size w'.heap.size) ∧ Below w.heap.size w w' := by
  have ht0 : tyInt64SS (g 0) := ht
  have hy0 := ht0
  obtain ⟨n0, f0, e0, -⟩ := ht0
  rw [e0] at hy0
  have r0 := hr 0 (by omega)
  rw [e0] at r0
  obtain ⟨A0, c0, v0, hm0, ra0⟩ := r0.sl_inv
  have hq0 : cost (.sl n0 1 f0) ≤ 1048576 := by rw [← e0]; exact Nat.le_trans (Nat.le_trans (Nat.le_add_left _ _) (sumTo_lt (fun j => cost (g j)) (show 0 < 1 by omega))) hq
  rw [v0]
  refine (toInt64SS_calls A0 n0 c0 f0 w hq0 hm0 ra0 hy0).mono ?_
  rintro e w' ⟨G0, rfl, ho0, hb⟩
  refine ⟨fun _ => .slice (some ⟨G0, 0, none⟩) n0 n0, rfl, ⟨fun j => if j = 0 then iv w.heap.size w'.heap.size else fun _ => False, fun j hj => ?_, fun j x hj hx => ?_, fun i j x hi hj hx hx' => ?_⟩, hb⟩
  · obtain rfl : j = 0 := by omega
    · rw [e0]; exact ho0
  · obtain rfl : j = 0 := by omega
    · have h1 := (show iv w.heap.size w'.heap.size x from hx); unfold iv at *; omega
  · omega

set_option maxRecDepth 100000 in
set_option maxHeartbeats 2000000 in
theorem eqInt64SS_rec (vs us : Nat → Value) (g : Nat → Dat) (w : World) (hr : ReadsRec w 1 vs g) (hs : ReadsRec w 1 us g) (ht : tyrInt64SS g) :
    Calls Try.prog 147 #[vs 0, us 0] w fun e w' => e = .returned (.bool true) ∧ Below w.heap.size w w' := by
  have ht0 : tyInt64SS (g 0) := ht
  have hy0 := ht0
  obtain ⟨n0, f0, e0, -⟩ := ht0
  rw [e0] at hy0
  have r0 := hr 0 (by omega)
  rw [e0] at r0
  obtain ⟨A0, c0, v0, hm0, ra0⟩ := r0.sl_inv
  have r0' := hs 0 (by omega)
  rw [e0] at r0'
  obtain ⟨A0', c0', v0', hm0', ra0'⟩ := r0'.sl_inv
  rw [v0]
  rw [v0']
  exact eqInt64SS_same A0 A0' n0 c0 c0' f0 w hm0 ra0 ra0' hy0

set_option maxRecDepth 100000 in
set_option maxHeartbeats 2000000 in
theorem markInt64SS_rec (vs : Nat → Value) (g : Nat → Dat) (F : Nat → Prop) (K : Nat) (z : Int) (w : World) (hz : z = (K : Int)) (h1 : 1 ≤ K) (hcap : K + cntRec 1 g ≤ 1000000000000) (ho : OwnRec w 1 vs g F) (ht : tyrInt64SS g) :
    Calls Try.prog 100 #[vs 0, .int .i64 z] w fun e w' => e = .returned (.int .i64 ((K + cntRec 1 g : Nat) : Int)) ∧ OwnRec w' 1 vs (markRec g K) F ∧ OnlyF F w w' := by
  have hr := ho.reads
  obtain ⟨fp, o1, o2, o3⟩ := ho
  have ht0 : tyInt64SS (g 0) := ht
  have hy0 := ht0
  obtain ⟨n0, f0, e0, -⟩ := ht0
  rw [e0] at hy0
  have r0 := hr 0 (by omega)
  rw [e0] at r0
  obtain ⟨A0, c0, v0, hm0, ra0⟩ := r0.sl_inv
  have hC : cntRec 1 g = cnt (.sl n0 1 f0) := by simp only [cntRec, sumTo, e0, cntS]; try omega
  rw [hC] at hcap ⊢
  have p0 := o1 0 (by omega)
  rw [v0, e0] at p0
  have m0 : markRec g K 0 = mark mt (.sl n0 1 f0) (K) := by simp only [markRec, markS, sumTo, cntS, e0]; congr 1; try omega
  rw [v0]
  refine (markInt64SS_calls A0 n0 c0 K z f0 (fp 0) w hz h1 hcap hm0 hy0 p0).mono ?_
  rintro e w' ⟨rfl, q0, hw⟩
  refine ⟨ret_int (by omega), ⟨fp, fun j hj => ?_, fun j x hj hx => ⟨(o2 j x hj hx).1, Nat.lt_of_lt_of_le (o2 j x hj hx).2 hw.size⟩, o3⟩, hw.mono fun x hx => ?_⟩
  · obtain rfl : j = 0 := by omega
    · rw [v0, m0]; exact q0
  · exact (o2 0 x (by omega) hx).1

set_option maxRecDepth 100000 in
set_option maxHeartbeats 2000000 in
theorem heldInt64SS_rec (vs : Nat → Value) (g : Nat → Dat) (K : Nat) (z : Int) (w : World) (hz : z = (K : Int)) (h1 : 1 ≤ K) (hcap : K + cntRec 1 g ≤ 1000000000000) (hr : ReadsRec w 1 vs (markRec g K)) (ht : tyrInt64SS g) :
    Calls Try.prog 109 #[vs 0, .int .i64 z] w fun e w' => e = .returned (.int .i64 ((K + cntRec 1 g : Nat) : Int)) ∧ Below w.heap.size w w' := by
  have ht0 : tyInt64SS (g 0) := ht
  have hy0 := ht0
  obtain ⟨n0, f0, e0, -⟩ := ht0
  rw [e0] at hy0
  have hC : cntRec 1 g = cnt (.sl n0 1 f0) := by simp only [cntRec, sumTo, e0, cntS]; try omega
  rw [hC] at hcap ⊢
  have m0 : markRec g K 0 = mark mt (.sl n0 1 f0) (K) := by simp only [markRec, markS, sumTo, cntS, e0]; congr 1; try omega
  have r0 := hr 0 (by omega)
  rw [m0] at r0
  obtain ⟨A0, c0, v0, hm0, -⟩ := Reads.sl_inv r0
  rw [v0] at r0
  rw [v0]
  refine (heldInt64SS_calls A0 n0 c0 K z f0 w hz h1 hcap hm0 hy0 r0).mono ?_
  rintro e w' ⟨rfl, hb⟩
  exact ⟨ret_int (by omega), hb⟩

set_option maxRecDepth 100000 in
set_option maxHeartbeats 2000000 in
theorem szRows_rec (vs : Nat → Value) (g : Nat → Dat) (l : Int) (w : World) (hl : 0 ≤ l) (hl2 : l ≤ 1048576) (hr : ReadsRec w 1 vs g) (ht : tyrRows g) :
    Calls Try.prog 90 #[.agg #[vs 0], .int .i64 l] w fun e w' => e = .returned (.int .i64 (left l (costRec 1 g))) ∧ Below w.heap.size w w' := by
  have ht0 : tyInt64SS (g 0) := ht
  have hy0 := ht0
  obtain ⟨n0, f0, e0, -⟩ := ht0
  rw [e0] at hy0
  have r0 := hr 0 (by omega)
  rw [e0] at r0
  obtain ⟨A0, c0, v0, hm0, ra0⟩ := r0.sl_inv
  rw [v0]
  refine (szRows_calls A0 n0 c0 f0 l w hl hl2 hm0 ra0 hy0).mono ?_
  rintro e w' ⟨rfl, hb⟩
  refine ⟨ret_int (congrArg (left l) ?_), hb⟩
  simp only [costRec, sumTo, e0]
  try simp only [cost]
  try omega

set_option maxRecDepth 100000 in
set_option maxHeartbeats 2000000 in
theorem toRows_rec (vs : Nat → Value) (g : Nat → Dat) (w : World) (hq : costRec 1 g ≤ 1048576) (hr : ReadsRec w 1 vs g) (ht : tyrRows g) :
    Calls Try.prog 94 #[.agg #[vs 0]] w fun e w' => ∃ us : Nat → Value, e = .returned (.agg #[us 0]) ∧ OwnRec w' 1 us g (iv w.heap.size w'.heap.size) ∧ Below w.heap.size w w' := by
  have ht0 : tyInt64SS (g 0) := ht
  have hy0 := ht0
  obtain ⟨n0, f0, e0, -⟩ := ht0
  rw [e0] at hy0
  have r0 := hr 0 (by omega)
  rw [e0] at r0
  obtain ⟨A0, c0, v0, hm0, ra0⟩ := r0.sl_inv
  have hq0 : cost (.sl n0 1 f0) ≤ 1048576 := by rw [← e0]; exact Nat.le_trans (Nat.le_trans (Nat.le_add_left _ _) (sumTo_lt (fun j => cost (g j)) (show 0 < 1 by omega))) hq
  rw [v0]
  refine (toRows_calls A0 n0 c0 f0 w hq0 hm0 ra0 hy0).mono ?_
  rintro e w' ⟨G0, rfl, ho0, hl0, hb⟩
  refine ⟨fun _ => .slice (some ⟨G0, 0, none⟩) n0 n0, rfl, ⟨fun j => if j = 0 then iv w.heap.size w'.heap.size else fun _ => False, fun j hj => ?_, fun j x hj hx => ?_, fun i j x hi hj hx hx' => ?_⟩, hb⟩
  · obtain rfl : j = 0 := by omega
    · rw [e0]; exact ho0
  · obtain rfl : j = 0 := by omega
    · have h1 := (show iv w.heap.size w'.heap.size x from hx); unfold iv at *; omega
  · omega

set_option maxRecDepth 100000 in
set_option maxHeartbeats 2000000 in
theorem eqRows_rec (vs us : Nat → Value) (g : Nat → Dat) (w : World) (hr : ReadsRec w 1 vs g) (hs : ReadsRec w 1 us g) (ht : tyrRows g) :
    Calls Try.prog 97 #[.agg #[vs 0], .agg #[us 0]] w fun e w' => e = .returned (.bool true) ∧ Below w.heap.size w w' := by
  have ht0 : tyInt64SS (g 0) := ht
  have hy0 := ht0
  obtain ⟨n0, f0, e0, -⟩ := ht0
  rw [e0] at hy0
  have r0 := hr 0 (by omega)
  rw [e0] at r0
  obtain ⟨A0, c0, v0, hm0, ra0⟩ := r0.sl_inv
  have r0' := hs 0 (by omega)
  rw [e0] at r0'
  obtain ⟨A0', c0', v0', hm0', ra0'⟩ := r0'.sl_inv
  rw [v0]
  rw [v0']
  exact eqRows_same A0 n0 c0 f0 A0' c0' w hm0 ra0 ra0' hy0

set_option maxRecDepth 100000 in
set_option maxHeartbeats 2000000 in
theorem szRowsS_rec (vs : Nat → Value) (g : Nat → Dat) (l : Int) (w : World) (hl : 0 ≤ l) (hl2 : l ≤ 1048576) (hr : ReadsRec w 1 vs g) (ht : tyrRowsS g) :
    Calls Try.prog 40 #[vs 0, .int .i64 l] w fun e w' => e = .returned (.int .i64 (left l (costRec 1 g))) ∧ Below w.heap.size w w' := by
  have ht0 : tyRowsS (g 0) := ht
  have hy0 := ht0
  obtain ⟨n0, f0, e0, -⟩ := ht0
  rw [e0] at hy0
  have r0 := hr 0 (by omega)
  rw [e0] at r0
  obtain ⟨A0, c0, v0, hm0, ra0⟩ := r0.sl_inv
  rw [v0]
  refine (szRowsS_calls A0 n0 c0 f0 l w hl hl2 hm0 ra0 hy0).mono ?_
  rintro e w' ⟨rfl, hb⟩
  refine ⟨ret_int (congrArg (left l) ?_), hb⟩
  simp only [costRec, sumTo, e0]
  try simp only [cost]
  try omega

set_option maxRecDepth 100000 in
set_option maxHeartbeats 2000000 in
theorem toRowsS_rec (vs : Nat → Value) (g : Nat → Dat) (w : World) (hq : costRec 1 g ≤ 1048576) (hr : ReadsRec w 1 vs g) (ht : tyrRowsS g) :
    Calls Try.prog 45 #[vs 0] w fun e w' => ∃ us : Nat → Value, e = .returned (us 0) ∧ OwnRec w' 1 us g (iv w.heap.size w'.heap.size) ∧ Below w.heap.size w w' := by
  have ht0 : tyRowsS (g 0) := ht
  have hy0 := ht0
  obtain ⟨n0, f0, e0, -⟩ := ht0
  rw [e0] at hy0
  have r0 := hr 0 (by omega)
  rw [e0] at r0
  obtain ⟨A0, c0, v0, hm0, ra0⟩ := r0.sl_inv
  have hq0 : cost (.sl n0 1 f0) ≤ 1048576 := by rw [← e0]; exact Nat.le_trans (Nat.le_trans (Nat.le_add_left _ _) (sumTo_lt (fun j => cost (g j)) (show 0 < 1 by omega))) hq
  rw [v0]
  refine (toRowsS_calls A0 n0 c0 f0 w hq0 hm0 ra0 hy0).mono ?_
  rintro e w' ⟨G0, rfl, ho0, hb⟩
  refine ⟨fun _ => .slice (some ⟨G0, 0, none⟩) n0 n0, rfl, ⟨fun j => if j = 0 then iv w.heap.size w'.heap.size else fun _ => False, fun j hj => ?_, fun j x hj hx => ?_, fun i j x hi hj hx hx' => ?_⟩, hb⟩
  · obtain rfl : j = 0 := by omega
    · rw [e0]; exact ho0
  · obtain rfl : j = 0 := by omega
    · have h1 := (show iv w.heap.size w'.heap.size x from hx); unfold iv at *; omega
  · omega

set_option maxRecDepth 100000 in
set_option maxHeartbeats 2000000 in
theorem eqRowsS_rec (vs us : Nat → Value) (g : Nat → Dat) (w : World) (hr : ReadsRec w 1 vs g) (hs : ReadsRec w 1 us g) (ht : tyrRowsS g) :
    Calls Try.prog 49 #[vs 0, us 0] w fun e w' => e = .returned (.bool true) ∧ Below w.heap.size w w' := by
  have ht0 : tyRowsS (g 0) := ht
  have hy0 := ht0
  obtain ⟨n0, f0, e0, -⟩ := ht0
  rw [e0] at hy0
  have r0 := hr 0 (by omega)
  rw [e0] at r0
  obtain ⟨A0, c0, v0, hm0, ra0⟩ := r0.sl_inv
  have r0' := hs 0 (by omega)
  rw [e0] at r0'
  obtain ⟨A0', c0', v0', hm0', ra0'⟩ := r0'.sl_inv
  rw [v0]
  rw [v0']
  exact eqRowsS_same A0 A0' n0 c0 c0' f0 w hm0 ra0 ra0' hy0

set_option maxRecDepth 100000 in
set_option maxHeartbeats 2000000 in
theorem markRowsS_rec (vs : Nat → Value) (g : Nat → Dat) (F : Nat → Prop) (K : Nat) (z : Int) (w : World) (hz : z = (K : Int)) (h1 : 1 ≤ K) (hcap : K + cntRec 1 g ≤ 1000000000000) (ho : OwnRec w 1 vs g F) (ht : tyrRowsS g) :
    Calls Try.prog 52 #[vs 0, .int .i64 z] w fun e w' => e = .returned (.int .i64 ((K + cntRec 1 g : Nat) : Int)) ∧ OwnRec w' 1 vs (markRec g K) F ∧ OnlyF F w w' := by
  have hr := ho.reads
  obtain ⟨fp, o1, o2, o3⟩ := ho
  have ht0 : tyRowsS (g 0) := ht
  have hy0 := ht0
  obtain ⟨n0, f0, e0, -⟩ := ht0
  rw [e0] at hy0
  have r0 := hr 0 (by omega)
  rw [e0] at r0
  obtain ⟨A0, c0, v0, hm0, ra0⟩ := r0.sl_inv
  have hC : cntRec 1 g = cnt (.sl n0 1 f0) := by simp only [cntRec, sumTo, e0, cntS]; try omega
  rw [hC] at hcap ⊢
  have p0 := o1 0 (by omega)
  rw [v0, e0] at p0
  have m0 : markRec g K 0 = mark mt (.sl n0 1 f0) (K) := by simp only [markRec, markS, sumTo, cntS, e0]; congr 1; try omega
  rw [v0]
  refine (markRowsS_calls A0 n0 c0 K z f0 (fp 0) w hz h1 hcap hm0 hy0 p0).mono ?_
  rintro e w' ⟨rfl, q0, hw⟩
  refine ⟨ret_int (by omega), ⟨fp, fun j hj => ?_, fun j x hj hx => ⟨(o2 j x hj hx).1, Nat.lt_of_lt_of_le (o2 j x hj hx).2 hw.size⟩, o3⟩, hw.mono fun x hx => ?_⟩
  · obtain rfl : j = 0 := by omega
    · rw [v0, m0]; exact q0
  · exact (o2 0 x (by omega) hx).1

set_option maxRecDepth 100000 in
set_option maxHeartbeats 2000000 in
theorem heldRowsS_rec (vs : Nat → Value) (g : Nat → Dat) (K : Nat) (z : Int) (w : World) (hz : z = (K : Int)) (h1 : 1 ≤ K) (hcap : K + cntRec 1 g ≤ 1000000000000) (hr : ReadsRec w 1 vs (markRec g K)) (ht : tyrRowsS g) :
    Calls Try.prog 62 #[vs 0, .int .i64 z] w fun e w' => e = .returned (.int .i64 ((K + cntRec 1 g : Nat) : Int)) ∧ Below w.heap.size w w' := by
  have ht0 : tyRowsS (g 0) := ht
  have hy0 := ht0
  obtain ⟨n0, f0, e0, -⟩ := ht0
  rw [e0] at hy0
  have hC : cntRec 1 g = cnt (.sl n0 1 f0) := by simp only [cntRec, sumTo, e0, cntS]; try omega
  rw [hC] at hcap ⊢
  have m0 : markRec g K 0 = mark mt (.sl n0 1 f0) (K) := by simp only [markRec, markS, sumTo, cntS, e0]; congr 1; try omega
  have r0 := hr 0 (by omega)
  rw [m0] at r0
  obtain ⟨A0, c0, v0, hm0, -⟩ := Reads.sl_inv r0
  rw [v0] at r0
  rw [v0]
  refine (heldRowsS_calls A0 n0 c0 K z f0 w hz h1 hcap hm0 hy0 r0).mono ?_
  rintro e w' ⟨rfl, hb⟩
  exact ⟨ret_int (by omega), hb⟩

set_option maxRecDepth 100000 in
set_option maxHeartbeats 2000000 in
theorem szNote_rec (vs : Nat → Value) (g : Nat → Dat) (l : Int) (w : World) (hl : 0 ≤ l) (hl2 : l ≤ 1048576) (hr : ReadsRec w 3 vs g) (ht : tyrNote g) :
    Calls Try.prog 25 #[.agg #[vs 0, vs 1, vs 2], .int .i64 l] w fun e w' => e = .returned (.int .i64 (left l (costRec 3 g))) ∧ Below w.heap.size w w' := by
  obtain ⟨⟨x0, e0⟩, ⟨x1, e1⟩, ⟨s2, e2⟩⟩ := ht
  have r0 := hr 0 (by omega)
  rw [e0] at r0
  obtain ⟨v0, hi0⟩ := r0.int_inv
  have r1 := hr 1 (by omega)
  rw [e1] at r1
  obtain ⟨v1, hi1⟩ := r1.int_inv
  have r2 := hr 2 (by omega)
  rw [e2] at r2
  obtain ⟨v2, hs2⟩ := r2.str_inv
  rw [v0, v1, v2]
  refine (szNote_calls x0 x1 s2 l w hl hl2   hs2).mono ?_
  rintro e w' ⟨rfl, hb⟩
  refine ⟨ret_int (congrArg (left l) ?_), hb⟩
  simp only [costRec, sumTo, e0, e1, e2]
  try simp only [cost]
  try omega

set_option maxRecDepth 100000 in
set_option maxHeartbeats 2000000 in
theorem toNote_rec (vs : Nat → Value) (g : Nat → Dat) (w : World) (hq : costRec 3 g ≤ 1048576) (hr : ReadsRec w 3 vs g) (ht : tyrNote g) :
    Calls Try.prog 27 #[.agg #[vs 0, vs 1, vs 2]] w fun e w' => ∃ us : Nat → Value, e = .returned (.agg #[us 0, us 1, us 2]) ∧ OwnRec w' 3 us g (iv w.heap.size w'.heap.size) ∧ Below w.heap.size w w' := by
  obtain ⟨⟨x0, e0⟩, ⟨x1, e1⟩, ⟨s2, e2⟩⟩ := ht
  have r0 := hr 0 (by omega)
  rw [e0] at r0
  obtain ⟨v0, hi0⟩ := r0.int_inv
  have r1 := hr 1 (by omega)
  rw [e1] at r1
  obtain ⟨v1, hi1⟩ := r1.int_inv
  have r2 := hr 2 (by omega)
  rw [e2] at r2
  obtain ⟨v2, hs2⟩ := r2.str_inv
  rw [v0, v1, v2]
  refine (toNote_calls x0 x1 s2 w ).mono ?_
  rintro e w' ⟨rfl, hb⟩
  have hl9 := hb.size
  refine ⟨fun j => if j = 0 then .int .i64 x0 else if j = 1 then .int .i64 x1 else if j = 2 then .string s2 else .bool false, rfl, ⟨fun j => fun _ => False, fun j hj => ?_, fun j x hj hx => ?_, fun i j x hi hj hx hx' => ?_⟩, hb⟩
  · rcases (by omega : j = 0 ∨ j = 1 ∨ j = 2) with rfl | rfl | rfl
    · rw [e0]; exact .int _ _ hi0
    · rw [e1]; exact .int _ _ hi1
    · rw [e2]; exact .str _ _ hs2
  · rcases (by omega : j = 0 ∨ j = 1 ∨ j = 2) with rfl | rfl | rfl
    · exact hx.elim
    · exact hx.elim
    · exact hx.elim
  · rcases (by omega : i = 0 ∨ i = 1 ∨ i = 2) with rfl | rfl | rfl
    · rcases (by omega : j = 0 ∨ j = 1 ∨ j = 2) with rfl | rfl | rfl
      · rfl
      · exact hx.elim
      · exact hx.elim
    · rcases (by omega : j = 0 ∨ j = 1 ∨ j = 2) with rfl | rfl | rfl
      · exact hx.elim
      · rfl
      · exact hx.elim
    · rcases (by omega : j = 0 ∨ j = 1 ∨ j = 2) with rfl | rfl | rfl
      · exact hx.elim
      · exact hx.elim
      · rfl

set_option maxRecDepth 100000 in
set_option maxHeartbeats 2000000 in
theorem eqNote_rec (vs us : Nat → Value) (g : Nat → Dat) (w : World) (hr : ReadsRec w 3 vs g) (hs : ReadsRec w 3 us g) (ht : tyrNote g) :
    Calls Try.prog 98 #[.agg #[vs 0, vs 1, vs 2], .agg #[us 0, us 1, us 2]] w fun e w' => e = .returned (.bool true) ∧ Below w.heap.size w w' := by
  obtain ⟨⟨x0, e0⟩, ⟨x1, e1⟩, ⟨s2, e2⟩⟩ := ht
  have r0 := hr 0 (by omega)
  rw [e0] at r0
  obtain ⟨v0, hi0⟩ := r0.int_inv
  have r1 := hr 1 (by omega)
  rw [e1] at r1
  obtain ⟨v1, hi1⟩ := r1.int_inv
  have r2 := hr 2 (by omega)
  rw [e2] at r2
  obtain ⟨v2, hs2⟩ := r2.str_inv
  have r0' := hs 0 (by omega)
  rw [e0] at r0'
  obtain ⟨v0', hi0'⟩ := r0'.int_inv
  have r1' := hs 1 (by omega)
  rw [e1] at r1'
  obtain ⟨v1', hi1'⟩ := r1'.int_inv
  have r2' := hs 2 (by omega)
  rw [e2] at r2'
  obtain ⟨v2', hs2'⟩ := r2'.str_inv
  rw [v0, v1, v2]
  rw [v0', v1', v2']
  exact eqNote_same x0 x1 s2 w 

set_option maxRecDepth 100000 in
set_option maxHeartbeats 2000000 in
theorem szNoteS_rec (vs : Nat → Value) (g : Nat → Dat) (l : Int) (w : World) (hl : 0 ≤ l) (hl2 : l ≤ 1048576) (hr : ReadsRec w 1 vs g) (ht : tyrNoteS g) :
    Calls Try.prog 41 #[vs 0, .int .i64 l] w fun e w' => e = .returned (.int .i64 (left l (costRec 1 g))) ∧ Below w.heap.size w w' := by
  have ht0 : tyNoteS (g 0) := ht
  have hy0 := ht0
  obtain ⟨n0, f0, e0, -⟩ := ht0
  rw [e0] at hy0
  have r0 := hr 0 (by omega)
  rw [e0] at r0
  obtain ⟨A0, c0, v0, hm0, ra0⟩ := r0.sl_inv
  rw [v0]
  refine (szNoteS_calls A0 n0 c0 f0 l w hl hl2 hm0 ra0 hy0).mono ?_
  rintro e w' ⟨rfl, hb⟩
  refine ⟨ret_int (congrArg (left l) ?_), hb⟩
  simp only [costRec, sumTo, e0]
  try simp only [cost]
  try omega

set_option maxRecDepth 100000 in
set_option maxHeartbeats 2000000 in
theorem toNoteS_rec (vs : Nat → Value) (g : Nat → Dat) (w : World) (hq : costRec 1 g ≤ 1048576) (hr : ReadsRec w 1 vs g) (ht : tyrNoteS g) :
    Calls Try.prog 46 #[vs 0] w fun e w' => ∃ us : Nat → Value, e = .returned (us 0) ∧ OwnRec w' 1 us g (iv w.heap.size w'.heap.size) ∧ Below w.heap.size w w' := by
  have ht0 : tyNoteS (g 0) := ht
  have hy0 := ht0
  obtain ⟨n0, f0, e0, -⟩ := ht0
  rw [e0] at hy0
  have r0 := hr 0 (by omega)
  rw [e0] at r0
  obtain ⟨A0, c0, v0, hm0, ra0⟩ := r0.sl_inv
  have hq0 : cost (.sl n0 3 f0) ≤ 1048576 := by rw [← e0]; exact Nat.le_trans (Nat.le_trans (Nat.le_add_left _ _) (sumTo_lt (fun j => cost (g j)) (show 0 < 1 by omega))) hq
  rw [v0]
  refine (toNoteS_calls A0 n0 c0 f0 w hq0 hm0 ra0 hy0).mono ?_
  rintro e w' ⟨G0, rfl, ho0, hb⟩
  refine ⟨fun _ => .slice (some ⟨G0, 0, none⟩) n0 n0, rfl, ⟨fun j => if j = 0 then iv w.heap.size w'.heap.size else fun _ => False, fun j hj => ?_, fun j x hj hx => ?_, fun i j x hi hj hx hx' => ?_⟩, hb⟩
  · obtain rfl : j = 0 := by omega
    · rw [e0]; exact ho0
  · obtain rfl : j = 0 := by omega
    · have h1 := (show iv w.heap.size w'.heap.size x from hx); unfold iv at *; omega
  · omega

set_option maxRecDepth 100000 in
set_option maxHeartbeats 2000000 in
theorem eqNoteS_rec (vs us : Nat → Value) (g : Nat → Dat) (w : World) (hr : ReadsRec w 1 vs g) (hs : ReadsRec w 1 us g) (ht : tyrNoteS g) :
    Calls Try.prog 50 #[vs 0, us 0] w fun e w' => e = .returned (.bool true) ∧ Below w.heap.size w w' := by
  have ht0 : tyNoteS (g 0) := ht
  have hy0 := ht0
  obtain ⟨n0, f0, e0, -⟩ := ht0
  rw [e0] at hy0
  have r0 := hr 0 (by omega)
  rw [e0] at r0
  obtain ⟨A0, c0, v0, hm0, ra0⟩ := r0.sl_inv
  have r0' := hs 0 (by omega)
  rw [e0] at r0'
  obtain ⟨A0', c0', v0', hm0', ra0'⟩ := r0'.sl_inv
  rw [v0]
  rw [v0']
  exact eqNoteS_same A0 A0' n0 c0 c0' f0 w hm0 ra0 ra0' hy0

set_option maxRecDepth 100000 in
set_option maxHeartbeats 2000000 in
theorem markNoteS_rec (vs : Nat → Value) (g : Nat → Dat) (F : Nat → Prop) (K : Nat) (z : Int) (w : World) (hz : z = (K : Int)) (h1 : 1 ≤ K) (hcap : K + cntRec 1 g ≤ 1000000000000) (ho : OwnRec w 1 vs g F) (ht : tyrNoteS g) :
    Calls Try.prog 53 #[vs 0, .int .i64 z] w fun e w' => e = .returned (.int .i64 ((K + cntRec 1 g : Nat) : Int)) ∧ OwnRec w' 1 vs (markRec g K) F ∧ OnlyF F w w' := by
  have hr := ho.reads
  obtain ⟨fp, o1, o2, o3⟩ := ho
  have ht0 : tyNoteS (g 0) := ht
  have hy0 := ht0
  obtain ⟨n0, f0, e0, -⟩ := ht0
  rw [e0] at hy0
  have r0 := hr 0 (by omega)
  rw [e0] at r0
  obtain ⟨A0, c0, v0, hm0, ra0⟩ := r0.sl_inv
  have hC : cntRec 1 g = cnt (.sl n0 3 f0) := by simp only [cntRec, sumTo, e0, cntS]; try omega
  rw [hC] at hcap ⊢
  have p0 := o1 0 (by omega)
  rw [v0, e0] at p0
  have m0 : markRec g K 0 = mark mt (.sl n0 3 f0) (K) := by simp only [markRec, markS, sumTo, cntS, e0]; congr 1; try omega
  rw [v0]
  refine (markNoteS_calls A0 n0 c0 K z f0 (fp 0) w hz h1 hcap hm0 hy0 p0).mono ?_
  rintro e w' ⟨rfl, q0, hw⟩
  refine ⟨ret_int (by omega), ⟨fp, fun j hj => ?_, fun j x hj hx => ⟨(o2 j x hj hx).1, Nat.lt_of_lt_of_le (o2 j x hj hx).2 hw.size⟩, o3⟩, hw.mono fun x hx => ?_⟩
  · obtain rfl : j = 0 := by omega
    · rw [v0, m0]; exact q0
  · exact (o2 0 x (by omega) hx).1

set_option maxRecDepth 100000 in
set_option maxHeartbeats 2000000 in
theorem heldNoteS_rec (vs : Nat → Value) (g : Nat → Dat) (K : Nat) (z : Int) (w : World) (hz : z = (K : Int)) (h1 : 1 ≤ K) (hcap : K + cntRec 1 g ≤ 1000000000000) (hr : ReadsRec w 1 vs (markRec g K)) (ht : tyrNoteS g) :
    Calls Try.prog 63 #[vs 0, .int .i64 z] w fun e w' => e = .returned (.int .i64 ((K + cntRec 1 g : Nat) : Int)) ∧ Below w.heap.size w w' := by
  have ht0 : tyNoteS (g 0) := ht
  have hy0 := ht0
  obtain ⟨n0, f0, e0, -⟩ := ht0
  rw [e0] at hy0
  have hC : cntRec 1 g = cnt (.sl n0 3 f0) := by simp only [cntRec, sumTo, e0, cntS]; try omega
  rw [hC] at hcap ⊢
  have m0 : markRec g K 0 = mark mt (.sl n0 3 f0) (K) := by simp only [markRec, markS, sumTo, cntS, e0]; congr 1; try omega
  have r0 := hr 0 (by omega)
  rw [m0] at r0
  obtain ⟨A0, c0, v0, hm0, -⟩ := Reads.sl_inv r0
  rw [v0] at r0
  rw [v0]
  refine (heldNoteS_calls A0 n0 c0 K z f0 w hz h1 hcap hm0 hy0 r0).mono ?_
  rintro e w' ⟨rfl, hb⟩
  exact ⟨ret_int (by omega), hb⟩

set_option maxRecDepth 100000 in
set_option maxHeartbeats 2000000 in
theorem szFile_rec (vs : Nat → Value) (g : Nat → Dat) (l : Int) (w : World) (hl : 0 ≤ l) (hl2 : l ≤ 1048576) (hr : ReadsRec w 3 vs g) (ht : tyrFile g) :
    Calls Try.prog 9 #[.agg #[vs 0, vs 1, vs 2], .int .i64 l] w fun e w' => e = .returned (.int .i64 (left l (costRec 3 g))) ∧ Below w.heap.size w w' := by
  obtain ⟨ht0, ht1, ht2⟩ := ht
  have hy0 := ht0
  obtain ⟨n0, f0, e0, -⟩ := ht0
  rw [e0] at hy0
  have r0 := hr 0 (by omega)
  rw [e0] at r0
  obtain ⟨A0, c0, v0, hm0, ra0⟩ := r0.sl_inv
  have hy1 := ht1
  obtain ⟨n1, f1, e1, -⟩ := ht1
  rw [e1] at hy1
  have r1 := hr 1 (by omega)
  rw [e1] at r1
  obtain ⟨A1, c1, v1, hm1, ra1⟩ := r1.sl_inv
  have hy2 := ht2
  obtain ⟨n2, f2, e2, -⟩ := ht2
  rw [e2] at hy2
  have r2 := hr 2 (by omega)
  rw [e2] at r2
  obtain ⟨A2, c2, v2, hm2, ra2⟩ := r2.sl_inv
  rw [v0, v1, v2]
  refine (szFile_calls A0 n0 c0 f0 A1 n1 c1 f1 A2 n2 c2 f2 l w hl hl2 hm0 ra0 hy0 hm1 ra1 hy1 hm2 ra2 hy2).mono ?_
  rintro e w' ⟨rfl, hb⟩
  refine ⟨ret_int (congrArg (left l) ?_), hb⟩
  simp only [costRec, sumTo, e0, e1, e2]
  try simp only [cost]
  try omega

set_option maxRecDepth 100000 in
set_option maxHeartbeats 2000000 in
theorem toFile_rec (vs : Nat → Value) (g : Nat → Dat) (w : World) (hq : costRec 3 g ≤ 1048576) (hr : ReadsRec w 3 vs g) (ht : tyrFile g) :
    Calls Try.prog 11 #[.agg #[vs 0, vs 1, vs 2]] w fun e w' => ∃ us : Nat → Value, e = .returned (.agg #[us 0, us 1, us 2]) ∧ OwnRec w' 3 us g (iv w.heap.size w'.heap.size) ∧ Below w.heap.size w w' := by
  obtain ⟨ht0, ht1, ht2⟩ := ht
  have hy0 := ht0
  obtain ⟨n0, f0, e0, -⟩ := ht0
  rw [e0] at hy0
  have r0 := hr 0 (by omega)
  rw [e0] at r0
  obtain ⟨A0, c0, v0, hm0, ra0⟩ := r0.sl_inv
  have hy1 := ht1
  obtain ⟨n1, f1, e1, -⟩ := ht1
  rw [e1] at hy1
  have r1 := hr 1 (by omega)
  rw [e1] at r1
  obtain ⟨A1, c1, v1, hm1, ra1⟩ := r1.sl_inv
  have hy2 := ht2
  obtain ⟨n2, f2, e2, -⟩ := ht2
  rw [e2] at hy2
  have r2 := hr 2 (by omega)
  rw [e2] at r2
  obtain ⟨A2, c2, v2, hm2, ra2⟩ := r2.sl_inv
  have hq0 : cost (.sl n0 4 f0) ≤ 1048576 := by rw [← e0]; exact Nat.le_trans (Nat.le_trans (Nat.le_add_left _ _) (sumTo_lt (fun j => cost (g j)) (show 0 < 3 by omega))) hq
  have hq1 : cost (.sl n1 1 f1) ≤ 1048576 := by rw [← e1]; exact Nat.le_trans (Nat.le_trans (Nat.le_add_left _ _) (sumTo_lt (fun j => cost (g j)) (show 1 < 3 by omega))) hq
  have hq2 : cost (.sl n2 3 f2) ≤ 1048576 := by rw [← e2]; exact Nat.le_trans (Nat.le_trans (Nat.le_add_left _ _) (sumTo_lt (fun j => cost (g j)) (show 2 < 3 by omega))) hq
  rw [v0, v1, v2]
  refine (toFile_calls A0 n0 c0 f0 A1 n1 c1 f1 A2 n2 c2 f2 w hq0 hm0 ra0 hy0 hq1 hm1 ra1 hy1 hq2 hm2 ra2 hy2).mono ?_
  rintro e w' ⟨G0, G1, G2, t1, t2, rfl, ho0, ho1, ho2, hl0, hl1, hl2, hb⟩
  refine ⟨fun j => if j = 0 then .slice (some ⟨G0, 0, none⟩) n0 n0 else if j = 1 then .slice (some ⟨G1, 0, none⟩) n1 n1 else if j = 2 then .slice (some ⟨G2, 0, none⟩) n2 n2 else .bool false, rfl, ⟨fun j => if j = 0 then iv w.heap.size t1 else if j = 1 then iv t1 t2 else if j = 2 then iv t2 w'.heap.size else fun _ => False, fun j hj => ?_, fun j x hj hx => ?_, fun i j x hi hj hx hx' => ?_⟩, hb⟩
  · rcases (by omega : j = 0 ∨ j = 1 ∨ j = 2) with rfl | rfl | rfl
    · rw [e0]; exact ho0
    · rw [e1]; exact ho1
    · rw [e2]; exact ho2
  · rcases (by omega : j = 0 ∨ j = 1 ∨ j = 2) with rfl | rfl | rfl
    · have h1 := (show iv w.heap.size t1 x from hx); unfold iv at *; omega
    · have h1 := (show iv t1 t2 x from hx); unfold iv at *; omega
    · have h1 := (show iv t2 w'.heap.size x from hx); unfold iv at *; omega
  · rcases (by omega : i = 0 ∨ i = 1 ∨ i = 2) with rfl | rfl | rfl
    · rcases (by omega : j = 0 ∨ j = 1 ∨ j = 2) with rfl | rfl | rfl
      · rfl
      · have h1 := (show iv w.heap.size t1 x from hx); have h2 := (show iv t1 t2 x from hx'); unfold iv at *; omega
      · have h1 := (show iv w.heap.size t1 x from hx); have h2 := (show iv t2 w'.heap.size x from hx'); unfold iv at *; omega
    · rcases (by omega : j = 0 ∨ j = 1 ∨ j = 2) with rfl | rfl | rfl
      · have h1 := (show iv t1 t2 x from hx); have h2 := (show iv w.heap.size t1 x from hx'); unfold iv at *; omega
      · rfl
      · have h1 := (show iv t1 t2 x from hx); have h2 := (show iv t2 w'.heap.size x from hx'); unfold iv at *; omega
    · rcases (by omega : j = 0 ∨ j = 1 ∨ j = 2) with rfl | rfl | rfl
      · have h1 := (show iv t2 w'.heap.size x from hx); have h2 := (show iv w.heap.size t1 x from hx'); unfold iv at *; omega
      · have h1 := (show iv t2 w'.heap.size x from hx); have h2 := (show iv t1 t2 x from hx'); unfold iv at *; omega
      · rfl

set_option maxRecDepth 100000 in
set_option maxHeartbeats 2000000 in
theorem eqFile_rec (vs us : Nat → Value) (g : Nat → Dat) (w : World) (hr : ReadsRec w 3 vs g) (hs : ReadsRec w 3 us g) (ht : tyrFile g) :
    Calls Try.prog 14 #[.agg #[vs 0, vs 1, vs 2], .agg #[us 0, us 1, us 2]] w fun e w' => e = .returned (.bool true) ∧ Below w.heap.size w w' := by
  obtain ⟨ht0, ht1, ht2⟩ := ht
  have hy0 := ht0
  obtain ⟨n0, f0, e0, -⟩ := ht0
  rw [e0] at hy0
  have r0 := hr 0 (by omega)
  rw [e0] at r0
  obtain ⟨A0, c0, v0, hm0, ra0⟩ := r0.sl_inv
  have hy1 := ht1
  obtain ⟨n1, f1, e1, -⟩ := ht1
  rw [e1] at hy1
  have r1 := hr 1 (by omega)
  rw [e1] at r1
  obtain ⟨A1, c1, v1, hm1, ra1⟩ := r1.sl_inv
  have hy2 := ht2
  obtain ⟨n2, f2, e2, -⟩ := ht2
  rw [e2] at hy2
  have r2 := hr 2 (by omega)
  rw [e2] at r2
  obtain ⟨A2, c2, v2, hm2, ra2⟩ := r2.sl_inv
  have r0' := hs 0 (by omega)
  rw [e0] at r0'
  obtain ⟨A0', c0', v0', hm0', ra0'⟩ := r0'.sl_inv
  have r1' := hs 1 (by omega)
  rw [e1] at r1'
  obtain ⟨A1', c1', v1', hm1', ra1'⟩ := r1'.sl_inv
  have r2' := hs 2 (by omega)
  rw [e2] at r2'
  obtain ⟨A2', c2', v2', hm2', ra2'⟩ := r2'.sl_inv
  rw [v0, v1, v2]
  rw [v0', v1', v2']
  exact eqFile_same A0 n0 c0 f0 A1 n1 c1 f1 A2 n2 c2 f2 A0' c0' A1' c1' A2' c2' w hm0 ra0 ra0' hy0 hm1 ra1 ra1' hy1 hm2 ra2 ra2' hy2

set_option maxRecDepth 100000 in
set_option maxHeartbeats 2000000 in
theorem markFile_rec (vs : Nat → Value) (g : Nat → Dat) (F : Nat → Prop) (K : Nat) (z : Int) (w : World) (hz : z = (K : Int)) (h1 : 1 ≤ K) (hcap : K + cntRec 3 g ≤ 1000000000000) (ho : OwnRec w 3 vs g F) (ht : tyrFile g) :
    Calls Try.prog 15 #[.agg #[vs 0, vs 1, vs 2], .int .i64 z] w fun e w' => e = .returned (.int .i64 ((K + cntRec 3 g : Nat) : Int)) ∧ OwnRec w' 3 vs (markRec g K) F ∧ OnlyF F w w' := by
  have hr := ho.reads
  obtain ⟨fp, o1, o2, o3⟩ := ho
  obtain ⟨ht0, ht1, ht2⟩ := ht
  have hy0 := ht0
  obtain ⟨n0, f0, e0, -⟩ := ht0
  rw [e0] at hy0
  have r0 := hr 0 (by omega)
  rw [e0] at r0
  obtain ⟨A0, c0, v0, hm0, ra0⟩ := r0.sl_inv
  have hy1 := ht1
  obtain ⟨n1, f1, e1, -⟩ := ht1
  rw [e1] at hy1
  have r1 := hr 1 (by omega)
  rw [e1] at r1
  obtain ⟨A1, c1, v1, hm1, ra1⟩ := r1.sl_inv
  have hy2 := ht2
  obtain ⟨n2, f2, e2, -⟩ := ht2
  rw [e2] at hy2
  have r2 := hr 2 (by omega)
  rw [e2] at r2
  obtain ⟨A2, c2, v2, hm2, ra2⟩ := r2.sl_inv
  have hC : cntRec 3 g = cnt (.sl n0 4 f0) + cnt (.sl n1 1 f1) + cnt (.sl n2 3 f2) := by simp only [cntRec, sumTo, e0, e1, e2, cntS]; try omega
  rw [hC] at hcap ⊢
  have p0 := o1 0 (by omega)
  rw [v0, e0] at p0
  have p1 := o1 1 (by omega)
  rw [v1, e1] at p1
  have p2 := o1 2 (by omega)
  rw [v2, e2] at p2
  have m0 : markRec g K 0 = mark mt (.sl n0 4 f0) (K) := by simp only [markRec, markS, sumTo, cntS, e0]; congr 1; try omega
  have m1 : markRec g K 1 = mark mt (.sl n1 1 f1) (K + cnt (.sl n0 4 f0)) := by simp only [markRec, markS, sumTo, cntS, e0, e1]; congr 1; try omega
  have m2 : markRec g K 2 = mark mt (.sl n2 3 f2) (K + cnt (.sl n0 4 f0) + cnt (.sl n1 1 f1)) := by simp only [markRec, markS, sumTo, cntS, e0, e1, e2]; congr 1; try omega
  rw [v0, v1, v2]
  refine (markFile_calls A0 n0 c0 f0 A1 n1 c1 f1 A2 n2 c2 f2 (fp 0) (fp 1) (fp 2) K z w hz h1 (by omega) hm0 hy0 p0 (fun x hx => (o2 0 x (by omega) hx).2) hm1 hy1 p1 (fun x hx => (o2 1 x (by omega) hx).2) hm2 hy2 p2 (fun x hx => (o2 2 x (by omega) hx).2) (fun x hx hx' => absurd (o3 0 1 x (by omega) (by omega) hx hx') (by omega)) (fun x hx hx' => absurd (o3 0 2 x (by omega) (by omega) hx hx') (by omega)) (fun x hx hx' => absurd (o3 1 2 x (by omega) (by omega) hx hx') (by omega))).mono ?_
  rintro e w' ⟨rfl, q0, q1, q2, hw⟩
  refine ⟨ret_int (by omega), ⟨fp, fun j hj => ?_, fun j x hj hx => ⟨(o2 j x hj hx).1, Nat.lt_of_lt_of_le (o2 j x hj hx).2 hw.size⟩, o3⟩, hw.mono fun x hx => ?_⟩
  · rcases (by omega : j = 0 ∨ j = 1 ∨ j = 2) with rfl | rfl | rfl
    · rw [v0, m0]; exact q0
    · rw [v1, m1]; exact q1
    · rw [v2, m2]; exact q2
  · rcases hx with hx | hx | hx
    · exact (o2 0 x (by omega) hx).1
    · exact (o2 1 x (by omega) hx).1
    · exact (o2 2 x (by omega) hx).1

set_option maxRecDepth 100000 in
set_option maxHeartbeats 2000000 in
theorem heldFile_rec (vs : Nat → Value) (g : Nat → Dat) (K : Nat) (z : Int) (w : World) (hz : z = (K : Int)) (h1 : 1 ≤ K) (hcap : K + cntRec 3 g ≤ 1000000000000) (hr : ReadsRec w 3 vs (markRec g K)) (ht : tyrFile g) :
    Calls Try.prog 24 #[.agg #[vs 0, vs 1, vs 2], .int .i64 z] w fun e w' => e = .returned (.int .i64 ((K + cntRec 3 g : Nat) : Int)) ∧ Below w.heap.size w w' := by
  obtain ⟨ht0, ht1, ht2⟩ := ht
  have hy0 := ht0
  obtain ⟨n0, f0, e0, -⟩ := ht0
  rw [e0] at hy0
  have hy1 := ht1
  obtain ⟨n1, f1, e1, -⟩ := ht1
  rw [e1] at hy1
  have hy2 := ht2
  obtain ⟨n2, f2, e2, -⟩ := ht2
  rw [e2] at hy2
  have hC : cntRec 3 g = cnt (.sl n0 4 f0) + cnt (.sl n1 1 f1) + cnt (.sl n2 3 f2) := by simp only [cntRec, sumTo, e0, e1, e2, cntS]; try omega
  rw [hC] at hcap ⊢
  have m0 : markRec g K 0 = mark mt (.sl n0 4 f0) (K) := by simp only [markRec, markS, sumTo, cntS, e0]; congr 1; try omega
  have r0 := hr 0 (by omega)
  rw [m0] at r0
  obtain ⟨A0, c0, v0, hm0, -⟩ := Reads.sl_inv r0
  rw [v0] at r0
  have m1 : markRec g K 1 = mark mt (.sl n1 1 f1) (K + cnt (.sl n0 4 f0)) := by simp only [markRec, markS, sumTo, cntS, e0, e1]; congr 1; try omega
  have r1 := hr 1 (by omega)
  rw [m1] at r1
  obtain ⟨A1, c1, v1, hm1, -⟩ := Reads.sl_inv r1
  rw [v1] at r1
  have m2 : markRec g K 2 = mark mt (.sl n2 3 f2) (K + cnt (.sl n0 4 f0) + cnt (.sl n1 1 f1)) := by simp only [markRec, markS, sumTo, cntS, e0, e1, e2]; congr 1; try omega
  have r2 := hr 2 (by omega)
  rw [m2] at r2
  obtain ⟨A2, c2, v2, hm2, -⟩ := Reads.sl_inv r2
  rw [v2] at r2
  rw [v0, v1, v2]
  refine (heldFile_calls A0 n0 c0 f0 A1 n1 c1 f1 A2 n2 c2 f2 K z w hz h1 (by omega) hm0 hy0 r0 hm1 hy1 r1 hm2 hy2 r2).mono ?_
  rintro e w' ⟨rfl, hb⟩
  exact ⟨ret_int (by omega), hb⟩

end Go.Proofs.Ytnmlnlcbnjepkaa.core
