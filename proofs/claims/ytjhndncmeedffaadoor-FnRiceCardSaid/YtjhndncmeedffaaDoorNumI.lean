/-
  Proved: the program's writer writes a number in bits, and a row of ones.
  Conditions: none.
-/
import Derived.Test.YtjhndncmeedffaaDoorWriter
import Derived.Test.YtjhndncmeedffaaDoorNum
import Derived.Deep.RegionWith
namespace Go.Proofs.YtjhndncmeedffaaDoor.writer
open Go.ChangeShapes Go.WideShapes Go.ChangeAt Go.RowKit Go.Joins
open Go.Proofs.YtjhndncmeedffaaDoor.core Go.Proofs.YtjhndncmeedffaaDoor.rows Go.Proofs.YtjhndncmeedffaaDoor.bits Go.Proofs.YtjhndncmeedffaaDoor.numS
set_option linter.unusedVariables false
set_option linter.unusedSimpArgs false

/-- What a writer's step leaves: the writer with more, and the rest as it was. -/
structure Wrote (B b : Nat) (l : List UInt8) (w w' : World) : Prop where
  wr : Wr B b l w'
  below : Below B w w'
  others : Lib.OthersKept 5 (some b) w w'
theorem Wrote.refl {B b : Nat} {l : List UInt8} {w : World} (h : Wr B b l w) : Wrote B b l w w := ⟨h, Below.refl _ _, Lib.OthersKept.refl _ _ _⟩
theorem Wrote.trans {B b : Nat} {l l' : List UInt8} {w w1 w2 : World} (h : Wrote B b l w w1) (k : Wrote B b l' w1 w2) : Wrote B b l' w w2 := ⟨k.wr, h.below.trans k.below, h.others.trans k.others⟩
theorem Wr.drew {B b : Nat} {l : List UInt8} {w : World} (h : Wr B b l w) : Wr B b l w.drew := h
theorem Wrote.drew {B b : Nat} {l : List UInt8} {w w' : World} (h : Wrote B b l w w') : Wrote B b l w w'.drew := ⟨h.wr, h.below.drew, h.others.drew⟩

theorem bitI (n j : Nat) (hn : n ≤ 9223372036854775807) :
    IntKind.u8.wrap (48 + IntKind.u8.wrap (bits BinOp.and IntKind.i64 ((n : Int) / 2 ^ j) 1)) = ((48 + n / 2 ^ j % 2 : Nat) : Int) := by
  obtain ⟨h0, h1, h2⟩ := bit_div n j hn
  rw [bit1 _ h0 h1, h2, IntKind.wrap_u8, IntKind.wrap_u8]
  have : n / 2 ^ j % 2 < 2 := Nat.mod_lt _ (by decide)
  generalize n / 2 ^ j % 2 = q at *
  omega

set_option maxRecDepth 100000 in
set_option maxHeartbeats 2000000 in
theorem number_calls (B b : Nat) (l : List UInt8) (n v : Nat) (hn : n ≤ 9223372036854775807) (hv : v ≤ 62) (w : World) (h : Wr B b l w) (hlen : l.length + v ≤ 140737488355328) (hBw : B ≤ w.heap.size) :
    Calls Tryd.prog 32 #[.pointer (some ⟨b, 0, none⟩), .int .i64 n, .int .i64 v] w fun e w' => e = .returned (.tuple #[]) ∧ Wrote B b (l ++ num n v) w w' := by
  have HW := Lib.hid (Wrote.refl h)
  clear h
  go_enter Tryd.func32, Tryd.ntmps32
  go_wp2
  go_loopw [6] (fun i w' => ∃ (k m : Nat) (z : Int), z = (k : Int) - 1 ∧ m + k = v ∧ i = .int .i64 z ∧ Hid (Wrote B b (l ++ num (n / 2 ^ k) m) w w')) (fun i _ => (intOf i + 1).toNat)
  case atStart => exact ⟨v, 0, _, rfl, by omega, rfl, by simpa [num] using HW⟩
  case round =>
    obtain ⟨k, m, z, hz, hk, rfl, HO⟩ := hrel
    rcases Nat.eq_zero_or_pos k with rfl | hp
    · obtain rfl : m = v := by omega
      obtain rfl : z = -1 := by omega
      rw [show n / 2 ^ 0 = n by simp] at HO
      clear hk hz HW
      go_wp2
      go_end0
      exact ⟨rfl, HO.out⟩
    · obtain ⟨j, rfl⟩ : ∃ j, k = j + 1 := ⟨k - 1, by omega⟩
      have HS := Lib.hid (num_step' n j m)
      obtain rfl : z = (j : Int) := by omega
      have HM := Lib.hid hk
      have E := Lib.hid (bitI n j hn)
      have hm : m ≤ 61 := by omega
      have hj : j ≤ 61 := by omega
      have hx : 48 + n / 2 ^ j % 2 < 256 := by have : n / 2 ^ j % 2 < 2 := Nat.mod_lt _ (by decide)
                                               omega
      have hll : l.length + m + 1 ≤ 140737488355328 := by omega
      clear hz hk hp
      generalize 48 + n / 2 ^ j % 2 = x at *
      have HB := Lib.hid (byte_calls B b (l ++ num (n / 2 ^ (j + 1)) m) x wr.drew hx HO.out.wr.drew (by rw [List.length_append, num_length]; exact hll) (Nat.le_trans hBw HO.out.below.size))
      have HX := Lib.hid hx
      clear hlen hBw hx hll
      go_wp2
      go_region_with (go_at_call 50; rw [E.out]; refine HB.out.mono ?_; rintro e w3 ⟨rfl, h1, h2, h3⟩; have H3 := Lib.hid (HO.out.drew.trans ⟨h1, h2, h3⟩); clear h1 h2 h3)
      all_goals
        go_wp2
        go_roundw
        case rel => exact ⟨j, m + 1, _, rfl, by have := HM.out; omega, rfl, Lib.hid (by rw [HS.out, ← List.append_assoc]; exact H3.out)⟩
        case measure => simp [intOf]
end Go.Proofs.YtjhndncmeedffaaDoor.writer
