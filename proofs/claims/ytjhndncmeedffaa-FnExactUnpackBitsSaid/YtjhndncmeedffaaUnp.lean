/-
  Proved: both functions that unpack bytes return the same bits.
  Conditions: none.
-/
import Derived.Test.YtjhndncmeedffaaNumI
namespace Go.Proofs.Ytjhndncmeedffaa.unpack
open Go.ChangeShapes Go.WideShapes Go.ChangeAt Go.RowKit Go.Joins
open Go.Proofs.Ytjhndncmeedffaa.core Go.Proofs.Ytjhndncmeedffaa.rows Go.Proofs.Ytjhndncmeedffaa.bits Go.Proofs.Ytjhndncmeedffaa.numS Go.Proofs.Ytjhndncmeedffaa.writer
set_option linter.unusedVariables false
set_option linter.unusedSimpArgs false

theorem bit8 (x : Int) (h0 : 0 ≤ x) (h1 : x ≤ 255) : bits .and .u8 x 1 = x % 2 :=
  bits_mask .u8 8 (by decide) (fun n a b => wraps_u8 n a b) 1 (by decide) x h0 (by omega)
theorem bitU (n j : Nat) (hn : n ≤ 255) : (48 + bits BinOp.and IntKind.u8 ((n : Int) / 2 ^ j) 1) % 256 = ((48 + n / 2 ^ j % 2 : Nat) : Int) := by
  have e : (n : Int) / 2 ^ j = ((n / 2 ^ j : Nat) : Int) := by simp
  have h : n / 2 ^ j ≤ n := Nat.div_le_self _ _
  rw [e]
  generalize n / 2 ^ j = q at *
  rw [bit8 _ (by omega) (by omega)]
  omega

set_option maxRecDepth 100000 in
set_option maxHeartbeats 2000000 in
theorem spec_loop (s : ByteArray) (hs : s.size ≤ 12500) (w : World) :
    Calls Try.prog 33 #[.string s] w fun e w' => e = .returned (.string ⟨(unp s.data.toList).toArray⟩) ∧ Below w.heap.size w w' := by
  obtain ⟨i0, hi0, hz0, hz1, hz2⟩ := info_get infoByte
  go_enter Try.func33, Try.ntmps33
  go_wp2
  go_loopw [3, 4] (fun o i w' => ∃ (k m gb c : Nat), k ≤ s.size ∧ m ≤ 8 * k ∧ i = .int .i64 (k : Int) ∧ o = .slice (some ⟨gb, 0, none⟩) m c ∧ Hid (m = 8 * k) ∧ Hid (w'.ownsRow w.heap.size 5 1 (.slice (some ⟨gb, 0, none⟩) m c) m (Lib.byteCells (unp (s.data.toList.take k)))) ∧ Hid (Below w.heap.size w w')) (fun _ i _ => s.size - (intOf i).toNat)
  case atStart => exact ⟨0, 0, _, _, Nat.zero_le _, Nat.le_refl _, rfl, rfl, Lib.hid rfl, Lib.hid (by simpa [unp, Lib.byteCells] using empty_row w 5), Lib.hid (below_alloc1 _ _)⟩
  case round =>
    obtain ⟨k, m, gb, c, hk, hm, rfl, rfl, HM, HO, HB⟩ := hrel
    by_cases hlt : k < s.size
    · have HS := Lib.hid (unp_take s k hlt)
      have hb : s[k].toNat ≤ 255 := by have := s[k].toNat_lt; omega
      obtain ⟨wo, rfl⟩ : ∃ wo : World, wo = wr := ⟨_, rfl⟩
      go_wp2
      go_loopw [3, 5] (fun o i w' => ∃ (j p gb c : Nat) (z : Int), z = (j : Int) - 1 ∧ p + j = 8 ∧ i = .int .i64 z ∧ o = .slice (some ⟨gb, 0, none⟩) (m + p) c ∧ Hid (w'.ownsRow w.heap.size 5 1 (.slice (some ⟨gb, 0, none⟩) (m + p) c) (m + p) (Lib.byteCells (unp (s.data.toList.take k) ++ num (s[k].toNat / 2 ^ j) p))) ∧ Hid (Below w.heap.size w w')) (fun _ i _ => (intOf i + 1).toNat)
      case atStart => exact ⟨8, 0, gb, c, _, rfl, rfl, rfl, rfl, by simpa [num] using HO, HB⟩
      case round =>
        obtain ⟨j, p, gb, c, z, hz, hj, rfl, rfl, HO, HB⟩ := hrel
        rcases Nat.eq_zero_or_pos j with rfl | hp
        · obtain rfl : p = 8 := by omega
          obtain rfl : z = -1 := by omega
          rw [show s[k].toNat / 2 ^ 0 = s[k].toNat by simp] at HO
          clear hj hz
          go_wp2
          go_roundw
          case rel => exact ⟨k + 1, m + 8, gb, c, by omega, by omega, by go_num, rfl, Lib.hid (by have := HM.out; omega), Lib.hid (by rw [HS.out]; exact HO.out), HB⟩
          case measure => simp [intOf]; omega
        · obtain ⟨i, rfl⟩ : ∃ i, j = i + 1 := ⟨j - 1, by omega⟩
          have HT := Lib.hid (num_step' s[k].toNat i p)
          obtain rfl : z = (i : Int) := by omega
          have HJ := Lib.hid hj
          have hi : i ≤ 7 := by omega
          have hpp : p ≤ 7 := by omega
          have hx : 48 + s[k].toNat / 2 ^ i % 2 < 256 := by have : s[k].toNat / 2 ^ i % 2 < 2 := Nat.mod_lt _ (by decide)
                                                            omega
          have E := bitU s[k].toNat i hb
          clear hz hj hp
          generalize hy : 48 + s[k].toNat / 2 ^ i % 2 = x at *
          clear hy
          go_wp2_with (first
            | (at_builtin
               have z0 := ownsRow_kept HO.out (below_alloc1 wr (.cells #[.int .u8 (x : Int)] 5))
               have z2 : ∀ u ∈ [Value.int .u8 (x : Int)], u.oneCell' = true := (by simp [Value.oneCell'])
               have z3 : m + p + 1 ≤ maxLen := (by simp only [maxLen]; omega)
               have z4 : (m + p + 1) * 1 ≤ 140737488355328 := (by omega)
               have z5 : w.heap.size ≤ (wr.alloc (.cells #[.int .u8 (x : Int)] 5)).heap.size := (Nat.le_trans HB.out.size (by simp))
               refine wpList_append_lies (wr.alloc (.cells #[.int .u8 (x : Int)] 5)) rfl _ _ 37 rfl w.heap.size 5 i0 (.int .u8 0) 1 1 Try.underlying37 hi0 hz0 hz1 hz2 rfl (by decide) (.slice (some ⟨gb, 0, none⟩) (m + p) c) (m + p) _ rfl z0 ⟨wr.heap.size, 0, none⟩ 1 1 [.int .u8 (x : Int)] rfl rfl one_new z2 (by decide) z3 z4 z5 _ rfl ?_
               intro g3 cap3 w3 hown hgr hat hlt3
               have HO3 := Lib.hid (row_snoc hx hown)
               have HB3 := Lib.hid (HB.out.trans ((under HO.out HB.out.size hgr)))
               clear hown hgr hat z0 z2 z3 z4 z5 E HO HB))
          go_roundw
          case rel => exact ⟨i, p + 1, g3, cap3, _, rfl, by have := HJ.out; omega, rfl, rfl, Lib.hid (by rw [HT.out, ← List.append_assoc]; exact HO3.out), HB3⟩
          case measure => simp [intOf]
    · obtain rfl : k = s.size := by omega
      have hr := row_string HO.out (by rw [unp_take_length s _ (Nat.le_refl _)]; exact HM.out.symm)
      rw [unp_full] at hr
      clear HO hk hlt
      go_wp2
      go_ret
      exact ⟨rfl, HB.out⟩

theorem number8 (B b : Nat) (l : List UInt8) (n : Nat) (hn : n ≤ 9223372036854775807) (w : World) (h : Wr B b l w) (hlen : l.length + 8 ≤ 140737488355328) (hBw : B ≤ w.heap.size) :
    Calls Try.prog 34 #[.pointer (some ⟨b, 0, none⟩), .int .i64 n, .int .i64 8] w fun e w' => e = .returned (.tuple #[]) ∧ Wrote B b (l ++ num n 8) w w' :=
  number_calls B b l n 8 hn (by omega) w h hlen hBw
set_option maxRecDepth 100000 in
set_option maxHeartbeats 2000000 in
theorem impl_loop (s : ByteArray) (hs : s.size ≤ 12500) (h0 : 0 < s.size) (w : World) :
    Calls Try.prog 12 #[.string s] w fun e w' => e = .returned (.tuple #[.string ⟨(unp s.data.toList).toArray⟩, .int .i64 0]) ∧ Below w.heap.size w w' := by
  have H0 := Lib.hid h0
  clear h0
  go_enter Try.func12, Try.ntmps12
  go_wp2
  go_loopw [11] (fun i w' => ∃ (k : Nat), k ≤ s.size ∧ i = .int .i64 (k : Int) ∧ Hid (Wr w.heap.size w.heap.size (unp (s.data.toList.take k)) w') ∧ Hid (Below w.heap.size w w')) (fun i _ => s.size - (intOf i).toNat)
  case atStart => exact ⟨0, Nat.zero_le _, rfl, Lib.hid (wr_start w), Lib.hid (below_alloc1 _ _)⟩
  case round =>
    obtain ⟨k, hk, rfl, HO, HB⟩ := hrel
    by_cases hlt : k < s.size
    · have HS := Lib.hid (unp_take s k hlt)
      have hb : s[k].toNat ≤ 255 := by have := s[k].toNat_lt; omega
      have HC := Lib.hid (number8 w.heap.size w.heap.size _ s[k].toNat (by omega) wr HO.out (by rw [unp_take_length s k hk]; omega) HB.out.size)
      have hb' : (s[k].toNat : Int) ≤ 255 := by omega
      clear HO hb
      go_wp2_with fail
      with_reducible refine HC.out.mono ?_
      rintro e w1 ⟨rfl, h1⟩
      have H1 := Lib.hid h1
      clear h1 HC
      go_wp2
      go_roundw
      case rel => exact ⟨k + 1, by omega, by go_num, Lib.hid (by rw [HS.out]; exact H1.out.wr), Lib.hid (HB.out.trans H1.out.below)⟩
      case measure => simp [intOf]; omega
    · obtain rfl : k = s.size := by omega
      have hne : unp (s.data.toList.take s.size) ≠ [] := fun h => by
        have h1 := unp_take_length s _ (Nat.le_refl _)
        rw [h] at h1
        have := H0.out
        simp at h1
        omega
      have HC := Lib.hid (bits_some w.heap.size w.heap.size _ wr HO.out hne)
      rw [unp_full] at HC
      clear HO hk hlt hne H0
      go_wp2_with fail
      refine HC.out.mono ?_
      rintro e w1 ⟨rfl, h1⟩
      have H1 := Lib.hid (HB.out.trans h1)
      clear h1 HC
      go_wp2
      go_ret2
      exact ⟨rfl, H1.out⟩
set_option maxRecDepth 100000 in
set_option maxHeartbeats 2000000 in
theorem impl_none (s : ByteArray) (h0 : s.size = 0) (w : World) :
    Calls Try.prog 12 #[.string s] w fun e w' => e = .returned (.tuple #[.string ⟨(unp s.data.toList).toArray⟩, .int .i64 0]) ∧ Below w.heap.size w w' := by
  obtain rfl : s = ⟨#[]⟩ := by
    cases s with
    | mk d => rw [Array.size_eq_zero_iff.1 (show d.size = 0 from h0)]
  clear h0
  have e : unp (⟨#[]⟩ : ByteArray).data.toList = [] := rfl
  rw [e]
  clear e
  have HC := Lib.hid (bits_new w.heap.size w.heap.size (.pointer none) (w.alloc (.cells #[.pointer none, .slice none 0 0] 46)) (heap_alloc_new w _))
  go_enter Try.func12, Try.ntmps12
  go_wp2
  go_loop [11] (fun i => i = .int .i64 0) (fun i => 0)
  case atStart => rfl
  case round =>
    obtain rfl := hrel
    go_wp2_with fail
    refine HC.out.mono ?_
    rintro e w1 ⟨rfl, h1⟩
    have H1 := Lib.hid ((below_alloc1 w _).trans h1)
    clear h1 HC
    go_wp2
    go_ret2
    exact ⟨rfl, H1.out⟩
theorem impl_no (s : ByteArray) (hs : s.size ≤ 1048576) (h : ¬ s.size ≤ 12500) (w : World) :
    Calls Try.prog 12 #[.string s] w fun e w' => e = .returned (.tuple #[.string ⟨#[]⟩, .int .i64 2]) ∧ Below w.heap.size w w' := by
  go_enter Try.func12, Try.ntmps12
  go_wp2
  go_ret2
  exact ⟨rfl, Below.refl _ _⟩
theorem spec_no (s : ByteArray) (hs : s.size ≤ 1048576) (h : ¬ s.size ≤ 12500) (w : World) :
    Calls Try.prog 11 #[.string s] w fun e w' => e = .returned (.tuple #[.string ⟨#[]⟩, .int .i64 2]) ∧ Below w.heap.size w w' := by
  go_enter Try.func11, Try.ntmps11
  go_wp2
  go_ret2
  exact ⟨rfl, Below.refl _ _⟩
theorem spec_yes (s : ByteArray) (h : s.size ≤ 12500) (w : World) :
    Calls Try.prog 11 #[.string s] w fun e w' => e = .returned (.tuple #[.string ⟨(unp s.data.toList).toArray⟩, .int .i64 0]) ∧ Below w.heap.size w w' := by
  go_enter Try.func11, Try.ntmps11
  go_wp2_with fail
  refine (spec_loop s h _).mono ?_
  rintro e w1 ⟨rfl, h1⟩
  go_wp2
  go_ret2
  exact ⟨rfl, h1⟩
theorem impl_yes (s : ByteArray) (h : s.size ≤ 12500) (w : World) :
    Calls Try.prog 12 #[.string s] w fun e w' => e = .returned (.tuple #[.string ⟨(unp s.data.toList).toArray⟩, .int .i64 0]) ∧ Below w.heap.size w w' := by
  rcases Nat.eq_zero_or_pos s.size with h0 | h0
  · exact impl_none s h0 w
  · exact impl_loop s h h0 w
end Go.Proofs.Ytjhndncmeedffaa.unpack
