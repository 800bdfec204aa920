/-
  Proved: what the functions that compare lists of texts, mark them and look for the marks do (contracts of callees of the laws on functions that return texts).
  Conditions: the list lies in a block of its own.
-/
import Derived.Test.YtpkofhchijpbeaaPost
import Derived.Lib.Hide
import Derived.Lib.SmallJoins
import Derived.Laws.IdiomStrings
import Derived.BigQuiet
import Derived.Shelf.SlSortCmp.QuietGrown
namespace Go.Proofs.Ytpkofhchijpbeaa.strs
open Go.ChangeShapes Go.WideShapes Go.ChangeAt Go.RowKit Go.Joins
set_option linter.unusedVariables false

/-- The digits of k before out. -/
def dgt (k : Nat) (out : ByteArray) : ByteArray := if h : k = 0 then out else dgt (k / 10) (⟨#[UInt8.ofNat (48 + k % 10)]⟩ ++ out)
termination_by k
decreasing_by omega
theorem one_size (u : UInt8) : (⟨#[u]⟩ : ByteArray).size = 1 := rfl
def mt (k : Nat) : ByteArray := ⟨#[109]⟩ ++ dgt k ⟨#[]⟩

set_option maxRecDepth 100000 in
set_option maxHeartbeats 2000000 in
theorem markText_calls (k : Nat) (w : World) (h1 : 1 ≤ k) (hk : k ≤ 1000000000000) :
    Calls Try.prog 22 #[.int .i64 (k : Int)] w fun e w' => e = .returned (.string (mt k)) ∧ Below w.heap.size w w' := by
  have h0 : ¬ ((k : Int) ≤ 0) := by omega
  go_enter Try.func22, Try.ntmps22
  go_wp2
  go_loopw [0, 3] (fun a o w' => ∃ (j : Nat) (t : ByteArray), j + t.size ≤ k ∧ a = .int .i64 (j : Int) ∧ o = .string t ∧ Hid (dgt j t = dgt k ⟨#[]⟩) ∧ Hid (Below w.heap.size w w')) (fun a _ _ => (intOf a).toNat)
  case atStart => exact ⟨k, _, by simp [ByteArray.size], rfl, rfl, Lib.hid rfl, Lib.hid (Below.refl _ _)⟩
  case round =>
    obtain ⟨j, t, hj, rfl, rfl, HD, HB⟩ := hrel
    have hsz : t.size ≤ 1000000000000 := by omega
    by_cases h0 : j = 0
    · subst h0
      have HE := Lib.hid (show t = dgt k ⟨#[]⟩ by rw [← HD.out]; unfold dgt; simp)
      have hs1 : ¬ (9223372036854775807 < 1 + t.size) := by omega
      go_wp2
      go_ret
      exact ⟨by rw [HE.out]; rfl, HB.out⟩
    · have hj0 : (0 : Int) < (j : Int) := by omega
      have hcv := run_convert_bytes_back (P := Try.prog) (wr.alloc (.cells #[.int .u8 (48 + (j : Int) % 10)] 5)) 36 9 5 ⟨wr.heap.size, 0, none⟩ 1 [UInt8.ofNat (48 + j % 10)] Try.underlying36 Try.underlying5 Try.underlying9 (fun i hi => by
        obtain rfl : i = 0 := by simpa using hi
        simp [Addr.add]
        omega)
      rw [show [UInt8.ofNat (48 + j % 10)].length = 1 from rfl] at hcv
      have hs1 : ¬ (9223372036854775807 < 1 + t.size) := by omega
      have HD2 := Lib.hid (show dgt (j / 10) (⟨#[UInt8.ofNat (48 + j % 10)]⟩ ++ t) = dgt k ⟨#[]⟩ by rw [← HD.out]; conv => rhs; unfold dgt; simp only [h0, dite_false])
      have hsz2 : j / 10 + (⟨#[UInt8.ofNat (48 + j % 10)]⟩ ++ t : ByteArray).size ≤ k := by
        rw [ByteArray.size_append, one_size]
        omega
      have HS2 := Lib.hid hsz2
      clear hsz2
      generalize UInt8.ofNat (48 + j % 10) = u at hcv HD2 HS2
      go_wp2
      go_roundw
      case rel => exact ⟨j / 10, _, HS2.out, by go_num, rfl, HD2, Lib.hid (HB.out.alloc HB.out.size _)⟩
      case measure => simp [intOf]; omega

/-- Block g holds the n texts f 0, f 1, .. -/
structure OwnT (w : World) (g n : Nat) (f : Nat → ByteArray) : Prop where
  ex : ∃ cur : Array Value, w.heap[g]? = some (.cells cur 9 (0, 0)) ∧ ∀ i, i < n → cur[i]? = some (.string (f i))
section
variable {w w' : World} {g n : Nat} {f f' : Nat → ByteArray}
theorem OwnT.lt (h : OwnT w g n f) : g < w.heap.size := by
  obtain ⟨cur, hc, _⟩ := h.ex
  exact (Array.getElem?_eq_some_iff.1 hc).1
theorem OwnT.cell (h : OwnT w g n f) {i : Nat} (hi : i < n) : w.cell? ⟨g, i, none⟩ = some (.string (f i)) := by
  obtain ⟨cur, hc, ha⟩ := h.ex
  rw [cell_of_block hc]
  exact ha i hi
theorem OwnT.fr (h : OwnT w g n f) (i : Nat) : w.frozen? ⟨g, i, none⟩ = false := by
  obtain ⟨cur, hc, ha⟩ := h.ex
  exact unfrozen_of_block hc i
theorem OwnT.same (h : OwnT w g n f) (he : w'.heap[g]? = w.heap[g]?) : OwnT w' g n f := by
  obtain ⟨cur, hc, ha⟩ := h.ex
  exact ⟨cur, he.trans hc, ha⟩
theorem OwnT.kept (h : OwnT w g n f) (hb : Below w.heap.size w w') : OwnT w' g n f := h.same (hb.block _ h.lt)
theorem OwnT.cast (h : OwnT w g n f) (he : ∀ i, i < n → f' i = f i) : OwnT w g n f' := by
  obtain ⟨cur, hc, ha⟩ := h.ex
  exact ⟨cur, hc, fun i hi => by rw [he i hi]; exact ha i hi⟩
theorem OwnT.set (h : OwnT w g n f) {k : Nat} (hk : k < n) (t : ByteArray) : OwnT (w.setCell ⟨g, k, none⟩ (.string t)) g n (fun i => if i = k then t else f i) := by
  obtain ⟨cur, hc, ha⟩ := h.ex
  refine ⟨_, block_setCell hc _, fun i hi => ?_⟩
  by_cases e : i = k
  · subst e
    have := (Array.getElem?_eq_some_iff.1 (ha i hi)).1
    simp [this]
  · rw [Array.getElem?_setIfInBounds_ne (by omega)]
    simp [e, ha i hi]
end
/-- Of what was there, at most block g has turned. -/
structure But (g : Nat) (w w' : World) : Prop where
  os : w'.os = w.os
  tape : w'.tape = w.tape
  output : w'.output = w.output
  size : w.heap.size ≤ w'.heap.size
  block : ∀ k, k < w.heap.size → k ≠ g → w'.heap[k]? = w.heap[k]?
section
variable {g : Nat} {w w' w2 : World}
theorem But.refl (g : Nat) (w : World) : But g w w := ⟨rfl, rfl, rfl, Nat.le_refl _, fun _ _ _ => rfl⟩
theorem But.trans (h : But g w w') (h' : But g w' w2) : But g w w2 :=
  ⟨h'.os.trans h.os, h'.tape.trans h.tape, h'.output.trans h.output, Nat.le_trans h.size h'.size, fun k hk hn => (h'.block k (Nat.lt_of_lt_of_le hk h.size) hn).trans (h.block k hk hn)⟩
theorem But.of_below (h : Below w.heap.size w w') : But g w w' := ⟨h.os, h.tape, h.output, h.size, fun k hk _ => h.block k hk⟩
theorem But.set (h : But g w w') (i : Nat) (v : Value) : But g w (w'.setCell ⟨g, i, none⟩ v) :=
  ⟨h.os, h.tape, h.output, by simpa [World.setCell] using h.size, fun k hk hn => by
    rw [Below.heap_setCell _ _ _ _ (by simpa using hn)]
    exact h.block k hk hn⟩
theorem But.below {B : Nat} (h : But g w w') (hB : B ≤ g) (hz : B ≤ w.heap.size) : Below B w w' := ⟨h.os, h.tape, h.output, h.size, fun k hk => h.block k (by omega) (by omega)⟩
end

set_option maxRecDepth 100000 in
set_option maxHeartbeats 2000000 in
theorem markStringS_some {c : Nat} (g n k : Nat) (f : Nat → ByteArray) (w : World) (h1 : 1 ≤ k) (hk : k + n ≤ 1000000000000) (hp : OwnT w g n f) :
    Calls Try.prog 11 #[.slice (some ⟨g, 0, none⟩) n c, .int .i64 (k : Int)] w fun e w' => e = .returned (.int .i64 ((k + n : Nat) : Int)) ∧ OwnT w' g n (fun i => mt (k + i)) ∧ But g w w' := by
  have HP := Lib.hid hp
  clear hp
  go_enter Try.func11, Try.ntmps11
  go_wp2
  go_loopw [1, 5] (fun m i w' => ∃ j : Nat, j ≤ n ∧ i = .int .i64 (j : Int) ∧ m = .int .i64 ((k + j : Nat) : Int) ∧ Hid (OwnT w' g n (fun i => if i < j then mt (k + i) else f i)) ∧ Hid (But g w w')) (fun _ i _ => n - (intOf i).toNat)
  case atStart => exact ⟨0, Nat.zero_le _, rfl, rfl, Lib.hid (HP.out.cast fun i _ => by simp), Lib.hid (But.refl _ _)⟩
  case round =>
    clear HP
    obtain ⟨j, hj, rfl, rfl, HG, HO⟩ := hrel
    by_cases hlt : j < n
    · have hli : (j : Int) < (n : Int) := by omega
      go_wp2_with fail
      refine (markText_calls (k + j) _ (by omega) (by omega)).mono ?_
      rintro e w2 ⟨rfl, hb2⟩
      have HG1 := Lib.hid (HG.out.kept hb2)
      have HS := Lib.hid ((HG1.out.set hlt (mt (k + j))).cast (f' := fun i => if i < j + 1 then mt (k + i) else f i) fun i _ => by
        by_cases e : i = j
        · subst e; simp
        · have e2 : (i < j + 1) = (i < j) := by simp; omega
          simp only [e, e2, if_false])
      have HO2 := Lib.hid ((HO.out.trans (But.of_below hb2)).set j (.string (mt (k + j))))
      have hc := HG1.out.cell hlt
      have hf := HG1.out.fr
      have hz := HG1.out.lt
      clear hb2 HG HO
      generalize mt (k + j) = t at HS HO2
      go_wp2
      go_roundw
      case rel => exact ⟨j + 1, by omega, by go_num, by go_num, HS, HO2⟩
      case measure => simp [intOf]; omega
    · obtain rfl : j = n := by omega
      have HF := Lib.hid (HG.out.cast (f' := fun i => mt (k + i)) fun i hi => by simp [hi])
      clear HG
      go_wp2
      go_ret
      exact ⟨rfl, HF.out, HO.out⟩

theorem mixed : Try.prog.follows .mixedOrders = true := by kernel_rfl
/-- A world in which all that was there in w reads as it did. -/
structure Kept (w : World) where
  world : World
  below : Below w.heap.size w world
instance keptInhabited (w : World) : Inhabited (Kept w) := ⟨⟨w, Below.refl _ _⟩⟩
theorem wp_region_quiet_kept {P : Program} {id : Nat} {Q : Exit → Act → World → Prop} {a : Act} {w : World} {l : List Oper} (hm : P.follows .mixedOrders = true) (hB : Region.lexB .any l.toArray = true)
    (h : wpQuiet P l.toArray (fun w' => ∃ p : Kept w, w' = p.world) (fun a' => ∀ w', (∃ p : Kept w, w' = p.world) → Q .normal a' w') l a) : (Code.region id l.toArray true).wp P Q a w :=
  wp_region_quiet (C := fun w' => ∃ p : Kept w, w' = p.world) hm hB ⟨⟨w.drew, (Below.refl _ _).drew⟩, rfl⟩ (by simpa using h)
theorem cell_kept {w : World} {a : Addr} {v : Value} (hb : a.block < w.heap.size) (h : w.cell? a = some v) (p : Kept w) : p.world.cell? a = some v := (p.below.cell hb).trans h
theorem Calls.kept_of {P : Program} {f : FuncId} {args : Array Value} {w : World} {p : Kept w} {v : Value}
    (h : Calls P f args p.world fun e w' => e = .returned v ∧ Below p.world.heap.size p.world w') : Calls P f args p.world fun e w'' => e = .returned v ∧ ∃ q : Kept w, w'' = q.world :=
  h.mono fun _ w' ⟨he, hb⟩ => ⟨he, ⟨w', p.below.trans (hb.mono p.below.size)⟩, rfl⟩

set_option maxRecDepth 100000 in
set_option maxHeartbeats 2000000 in
theorem eqStringS_some {c c' : Nat} (g g' n : Nat) (f : Nat → ByteArray) (w : World) (hn : n ≤ 1000000000000) (hp : OwnT w g n f) (hp' : OwnT w g' n f) :
    Calls Try.prog 10 #[.slice (some ⟨g, 0, none⟩) n c, .slice (some ⟨g', 0, none⟩) n c'] w fun e w' => e = .returned (.bool true) ∧ Below w.heap.size w w' := by
  have HP := Lib.hid hp
  have HP' := Lib.hid hp'
  clear hp hp'
  have hm := mixed
  have hu : undef = Value.tuple #[] := rfl
  go_enter Try.func10, Try.ntmps10
  go_wp2
  go_loopw [5] (fun i w' => ∃ j : Nat, j ≤ n ∧ i = .int .i64 (j : Int) ∧ Hid (Below w.heap.size w w')) (fun i _ => n - (intOf i).toNat)
  case atStart => exact ⟨0, Nat.zero_le _, rfl, Lib.hid (Below.refl _ _)⟩
  case round =>
    obtain ⟨j, hj, rfl, HB⟩ := hrel
    by_cases hlt : j < n
    · have hli : (j : Int) < (n : Int) := by omega
      have q0 := cell_kept (a := ⟨g, j, none⟩) (HP.out.kept HB.out).lt ((HP.out.kept HB.out).cell hlt)
      have q1 := cell_kept (a := ⟨g', j, none⟩) (HP'.out.kept HB.out).lt ((HP'.out.kept HB.out).cell hlt)
      generalize f j = t at q0 q1
      go_wp2
      refine wp_region_quiet_kept (by assumption) (by kernel_rfl) ?_
      repeat (first | go_big_quiet_step (fail) | quiet_step (fail))
      refine wpQuiet_nil ?_
      intro w2 hw'
      obtain ⟨⟨wk, hb2⟩, hw''⟩ := hw'
      subst hw''
      have HB2 := Lib.hid (HB.out.trans (hb2.mono HB.out.size))
      clear hb2 q0 q1
      go_wp2
      go_roundw
      case rel => exact ⟨j + 1, by omega, by go_num, HB2⟩
      case measure => simp [intOf]; omega
    · go_wp2
      go_ret
      exact ⟨rfl, HB.out⟩

set_option maxHeartbeats 1000000 in
theorem eqStringS_none {c c' : Nat} (A A' : Option Addr) (w : World) :
    Calls Try.prog 10 #[.slice A 0 c, .slice A' 0 c'] w fun e w' => e = .returned (.bool true) ∧ Below w.heap.size w w' := by
  go_enter Try.func10, Try.ntmps10
  go_wp2
  go_loopw [5] (fun i w' => i = .int .i64 0 ∧ w = w') (fun _ _ => 0)
  case atStart => exact ⟨rfl, rfl⟩
  case round =>
    obtain ⟨rfl, rfl⟩ := hrel
    go_wp2
    go_ret
    exact ⟨rfl, Below.refl _ _⟩

set_option maxRecDepth 100000 in
set_option maxHeartbeats 2000000 in
theorem heldStringS_some {c : Nat} (g n k : Nat) (w : World) (h1 : 1 ≤ k) (hk : k + n ≤ 1000000000000) (hp : OwnT w g n (fun i => mt (k + i))) :
    Calls Try.prog 12 #[.slice (some ⟨g, 0, none⟩) n c, .int .i64 (k : Int)] w fun e w' => e = .returned (.int .i64 ((k + n : Nat) : Int)) ∧ Below w.heap.size w w' := by
  have HP := Lib.hid hp
  clear hp
  have hm := mixed
  have hu : undef = Value.tuple #[] := rfl
  go_enter Try.func12, Try.ntmps12
  go_wp2
  go_loopw [1, 5] (fun m i w' => ∃ j : Nat, j ≤ n ∧ i = .int .i64 (j : Int) ∧ m = .int .i64 ((k + j : Nat) : Int) ∧ Hid (Below w.heap.size w w')) (fun _ i _ => n - (intOf i).toNat)
  case atStart => exact ⟨0, Nat.zero_le _, rfl, rfl, Lib.hid (Below.refl _ _)⟩
  case round =>
    obtain ⟨j, hj, rfl, rfl, HB⟩ := hrel
    by_cases hlt : j < n
    · have hli : (j : Int) < (n : Int) := by omega
      have q0 := cell_kept (a := ⟨g, j, none⟩) (HP.out.kept HB.out).lt ((HP.out.kept HB.out).cell hlt)
      have hkj : 1 ≤ k + j := by omega
      have hkj2 : k + j ≤ 1000000000000 := by omega
      have HMT := Lib.hid (fun (W : World) => markText_calls (k + j) W hkj hkj2)
      generalize mt (k + j) = t at q0 HMT
      go_wp2
      refine wp_region_quiet_kept (by assumption) (by kernel_rfl) ?_
      repeat (first | go_big_quiet_step ((go_at_call 22; exact Calls.kept_of (HMT.out _))) | quiet_step ((go_at_call 22; exact Calls.kept_of (HMT.out _))))
      refine wpQuiet_nil ?_
      intro w2 hw'
      obtain ⟨⟨wk, hb2⟩, hw''⟩ := hw'
      subst hw''
      have HB2 := Lib.hid (HB.out.trans (hb2.mono HB.out.size))
      clear hb2 q0
      go_wp2
      go_roundw
      case rel => exact ⟨j + 1, by omega, by go_num, by go_num, HB2⟩
      case measure => simp [intOf]; omega
    · obtain rfl : j = n := by omega
      go_wp2
      go_ret
      exact ⟨rfl, HB.out⟩

set_option maxHeartbeats 1000000 in
theorem markStringS_none {c : Nat} (A : Option Addr) (w : World) :
    Calls Try.prog 11 #[.slice A 0 c, .int .i64 1] w fun e w' => e = .returned (.int .i64 1) ∧ Below w.heap.size w w' := by
  go_enter Try.func11, Try.ntmps11
  go_wp2
  go_loopw [1, 5] (fun m i w' => i = .int .i64 0 ∧ m = .int .i64 1 ∧ w = w') (fun _ _ _ => 0)
  case atStart => exact ⟨rfl, rfl, rfl⟩
  case round =>
    obtain ⟨rfl, rfl, rfl⟩ := hrel
    go_wp2
    go_ret
    exact ⟨rfl, Below.refl _ _⟩
set_option maxHeartbeats 1000000 in
theorem heldStringS_none {c : Nat} (A : Option Addr) (w : World) :
    Calls Try.prog 12 #[.slice A 0 c, .int .i64 1] w fun e w' => e = .returned (.int .i64 1) ∧ Below w.heap.size w w' := by
  go_enter Try.func12, Try.ntmps12
  go_wp2
  go_loopw [1, 5] (fun m i w' => i = .int .i64 0 ∧ m = .int .i64 1 ∧ w = w') (fun _ _ _ => 0)
  case atStart => exact ⟨rfl, rfl, rfl⟩
  case round =>
    obtain ⟨rfl, rfl, rfl⟩ := hrel
    go_wp2
    go_ret
    exact ⟨rfl, Below.refl _ _⟩
end Go.Proofs.Ytpkofhchijpbeaa.strs
