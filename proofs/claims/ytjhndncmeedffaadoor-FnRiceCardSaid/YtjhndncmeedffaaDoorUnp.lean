/-
  Proved: both functions that unpack bytes return the same bits.
  Conditions: none.
-/
import Derived.Test.YtjhndncmeedffaaDoorNumI
namespace Go.Proofs.YtjhndncmeedffaaDoor.unpack
open Go.ChangeShapes Go.WideShapes Go.ChangeAt Go.RowKit Go.Joins
open Go.Proofs.YtjhndncmeedffaaDoor.core Go.Proofs.YtjhndncmeedffaaDoor.rows Go.Proofs.YtjhndncmeedffaaDoor.bits Go.Proofs.YtjhndncmeedffaaDoor.numS Go.Proofs.YtjhndncmeedffaaDoor.writer
set_option linter.unusedVariables false
set_option linter.unusedSimpArgs false

theorem bit8 (x : Int) (h0 : 0 ≤ x) (h1 : x ≤ 255) : bits .and .u8 x 1 = x % 2 :=
  bits_mask .u8 8 (by decide) (fun n a b => wraps_u8 n a b) 1 (by decide) x h0 (by omega)
theorem bitU (n j : Nat) (hn : n ≤ 255) : (48 + bits BinOp.and IntKind.u8 ((n : Int) / 2 ^ j) 1) % 256 = ((48 + n / 2 ^ j % 2 : Nat) : Int) := by
  have e : (n : Int) / 2 ^ j = ((n / 2 ^ j : Nat) : Int) := by simp
  have h : n / 2 ^ j ≤ n := Nat.div_le_self _ _
  rw [e]
  generalize n / 2 ^ j = q at *
  rw [bit8 _ (by omega) (by omega)]
  omega

theorem number8 (B b : Nat) (l : List UInt8) (n : Nat) (hn : n ≤ 9223372036854775807) (w : World) (h : Wr B b l w) (hlen : l.length + 8 ≤ 140737488355328) (hBw : B ≤ w.heap.size) :
    Calls Tryd.prog 32 #[.pointer (some ⟨b, 0, none⟩), .int .i64 n, .int .i64 8] w fun e w' => e = .returned (.tuple #[]) ∧ Wrote B b (l ++ num n 8) w w' :=
  number_calls B b l n 8 hn (by omega) w h hlen hBw
set_option maxRecDepth 100000 in
set_option maxHeartbeats 2000000 in
theorem impl_loop (s : ByteArray) (hs : s.size ≤ 12500) (h0 : 0 < s.size) (w : World) :
    Calls Tryd.prog 16 #[.string s] w fun e w' => e = .returned (.tuple #[.string ⟨(unp s.data.toList).toArray⟩, .int .i64 0]) ∧ Below w.heap.size w w' := by
  have H0 := Lib.hid h0
  clear h0
  go_enter Tryd.func16, Tryd.ntmps16
  go_wp2
  go_loopw [11] (fun i w' => ∃ (k : Nat), k ≤ s.size ∧ i = .int .i64 (k : Int) ∧ Hid (Wr w.heap.size w.heap.size (unp (s.data.toList.take k)) w') ∧ Hid (Below w.heap.size w w')) (fun i _ => s.size - (intOf i).toNat)
  case atStart => exact ⟨0, Nat.zero_le _, rfl, Lib.hid (wr_start w), Lib.hid (below_alloc1 _ _)⟩
  case round =>
    obtain ⟨k, hk, rfl, HO, HB⟩ := hrel
    by_cases hlt : k < s.size
    · have HS := Lib.hid (unp_take s k hlt)
      have hb : s[k].toNat ≤ 255 := by have := s[k].toNat_lt; omega
      have HC := Lib.hid (number8 w.heap.size w.heap.size _ s[k].toNat (by omega) wr HO.out (by rw [unp_take_length s k hk]; omega) HB.out.size)
      have hb' : (s[k].toNat : Int) ≤ 255 := by omega
      clear HO hb
      go_wp2_with fail
      with_reducible refine HC.out.mono ?_
      rintro e w1 ⟨rfl, h1⟩
      have H1 := Lib.hid h1
      clear h1 HC
      go_wp2
      go_roundw
      case rel => exact ⟨k + 1, by omega, by go_num, Lib.hid (by rw [HS.out]; exact H1.out.wr), Lib.hid (HB.out.trans H1.out.below)⟩
      case measure => simp [intOf]; omega
    · obtain rfl : k = s.size := by omega
      have hne : unp (s.data.toList.take s.size) ≠ [] := fun h => by
        have h1 := unp_take_length s _ (Nat.le_refl _)
        rw [h] at h1
        have := H0.out
        simp at h1
        omega
      have HC := Lib.hid (bits_some w.heap.size w.heap.size _ wr HO.out hne)
      rw [unp_full] at HC
      clear HO hk hlt hne H0
      go_wp2_with fail
      refine HC.out.mono ?_
      rintro e w1 ⟨rfl, h1⟩
      have H1 := Lib.hid (HB.out.trans h1)
      clear h1 HC
      go_wp2
      go_ret2
      exact ⟨rfl, H1.out⟩
set_option maxRecDepth 100000 in
set_option maxHeartbeats 2000000 in
theorem impl_none (s : ByteArray) (h0 : s.size = 0) (w : World) :
    Calls Tryd.prog 16 #[.string s] w fun e w' => e = .returned (.tuple #[.string ⟨(unp s.data.toList).toArray⟩, .int .i64 0]) ∧ Below w.heap.size w w' := by
  obtain rfl : s = ⟨#[]⟩ := by
    cases s with
    | mk d => rw [Array.size_eq_zero_iff.1 (show d.size = 0 from h0)]
  clear h0
  have e : unp (⟨#[]⟩ : ByteArray).data.toList = [] := rfl
  rw [e]
  clear e
  have HC := Lib.hid (bits_new w.heap.size w.heap.size (.pointer none) (w.alloc (.cells #[.pointer none, .slice none 0 0] 52)) (heap_alloc_new w _))
  go_enter Tryd.func16, Tryd.ntmps16
  go_wp2
  go_loop [11] (fun i => i = .int .i64 0) (fun i => 0)
  case atStart => rfl
  case round =>
    obtain rfl := hrel
    go_wp2_with fail
    refine HC.out.mono ?_
    rintro e w1 ⟨rfl, h1⟩
    have H1 := Lib.hid ((below_alloc1 w _).trans h1)
    clear h1 HC
    go_wp2
    go_ret2
    exact ⟨rfl, H1.out⟩
theorem impl_no (s : ByteArray) (hs : s.size ≤ 1048576) (h : ¬ s.size ≤ 12500) (w : World) :
    Calls Tryd.prog 16 #[.string s] w fun e w' => e = .returned (.tuple #[.string ⟨#[]⟩, .int .i64 2]) ∧ Below w.heap.size w w' := by
  go_enter Tryd.func16, Tryd.ntmps16
  go_wp2
  go_ret2
  exact ⟨rfl, Below.refl _ _⟩
theorem impl_yes (s : ByteArray) (h : s.size ≤ 12500) (w : World) :
    Calls Tryd.prog 16 #[.string s] w fun e w' => e = .returned (.tuple #[.string ⟨(unp s.data.toList).toArray⟩, .int .i64 0]) ∧ Below w.heap.size w w' := by
  rcases Nat.eq_zero_or_pos s.size with h0 | h0
  · exact impl_none s h0 w
  · exact impl_loop s h h0 w
end Go.Proofs.YtjhndncmeedffaaDoor.unpack
