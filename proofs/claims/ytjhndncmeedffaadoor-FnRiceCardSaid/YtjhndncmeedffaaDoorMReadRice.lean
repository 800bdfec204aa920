/-
  Proved: both functions read the same of a Rice code.
  Conditions: none.
-/
import Derived.Test.YtjhndncmeedffaaDoorReadK
namespace Go.Proofs.YtjhndncmeedffaaDoor.wReadRice
open Go.ChangeShapes Go.WideShapes Go.ChangeAt Go.RowKit Go.Joins
open Go.Proofs.YtjhndncmeedffaaDoor.core Go.Proofs.YtjhndncmeedffaaDoor.rows Go.Proofs.YtjhndncmeedffaaDoor.bits Go.Proofs.YtjhndncmeedffaaDoor.numS Go.Proofs.YtjhndncmeedffaaDoor.ints Go.Proofs.YtjhndncmeedffaaDoor.riceI Go.Proofs.YtjhndncmeedffaaDoor.readR
set_option linter.unusedVariables false
set_option linter.unusedSimpArgs false

set_option maxRecDepth 100000 in
set_option maxHeartbeats 1000000 in
theorem spec_bits (s : ByteArray) (hs : s.size ≤ 1048576) (h : ¬ (s.size ≤ 100000 ∧ pack.AllBits s s.size)) (a k : Int) (w : World) :
    Calls Tryd.prog 9 #[.string s, .int .i64 a, .int .i64 k] w fun e w' => e = .returned (.tuple #[.int .i64 0, .int .i64 0, .int .i64 7]) ∧ Below w.heap.size w w' := by
  have H1 := Lib.hid (pack.okS_calls s hs w false (by simp; exact fun a b => h ⟨a, b⟩))
  clear h
  go_enter Tryd.func9, Tryd.ntmps9
  go_wp2_with fail
  with_reducible refine H1.out.mono ?_
  rintro e w1 ⟨rfl, rfl⟩
  go_wp2
  go_ret3
  exact ⟨rfl, Below.refl _ _⟩
set_option maxRecDepth 100000 in
set_option maxHeartbeats 1000000 in
theorem impl_bits (s : ByteArray) (hs : s.size ≤ 1048576) (h : ¬ (s.size ≤ 100000 ∧ pack.AllBits s s.size)) (a k : Int) (w : World) :
    Calls Tryd.prog 10 #[.string s, .int .i64 a, .int .i64 k] w fun e w' => e = .returned (.tuple #[.int .i64 0, .int .i64 0, .int .i64 7]) ∧ Below w.heap.size w w' := by
  have H1 := Lib.hid (pack.okI_calls s hs w false (by simp; exact fun a b => h ⟨a, b⟩))
  clear h
  go_enter Tryd.func10, Tryd.ntmps10
  go_wp2_with fail
  with_reducible refine H1.out.mono ?_
  rintro e w1 ⟨rfl, hb⟩
  have HB := Lib.hid hb
  clear hb
  go_wp2
  go_ret3
  exact ⟨rfl, HB.out⟩
set_option maxRecDepth 100000 in
set_option maxHeartbeats 1000000 in
theorem spec_range (s : ByteArray) (hs : s.size ≤ 1048576) (hb : s.size ≤ 100000 ∧ pack.AllBits s s.size) (a k : Int) (h : ¬ ((0 ≤ k ∧ k ≤ 12) ∧ 0 ≤ a ∧ a ≤ s.size)) (w : World) :
    Calls Tryd.prog 9 #[.string s, .int .i64 a, .int .i64 k] w fun e w' => e = .returned (.tuple #[.int .i64 0, .int .i64 0, .int .i64 2]) ∧ Below w.heap.size w w' := by
  have H1 := Lib.hid (pack.okS_calls s hs w true (by simp [hb]))
  by_cases hk : 0 ≤ k ∧ k ≤ 12
  · have H2 := Lib.hid (in_yes k 0 12 w hk)
    have H3 := Lib.hid (in_no a 0 (s.size : Int) w (fun x => h ⟨hk, x⟩))
    clear h hb hk
    go_enter Tryd.func9, Tryd.ntmps9
    go_wp2_with fail
    with_reducible refine H1.out.mono ?_
    rintro e w1 ⟨rfl, rfl⟩
    go_wp2_with fail
    with_reducible refine H2.out.mono ?_
    rintro e w1 ⟨rfl, rfl⟩
    go_wp2_with fail
    with_reducible refine H3.out.mono ?_
    rintro e w1 ⟨rfl, rfl⟩
    go_wp2
    go_ret3
    exact ⟨rfl, Below.refl _ _⟩
  · have H2 := Lib.hid (in_no k 0 12 w hk)
    clear h hb hk
    go_enter Tryd.func9, Tryd.ntmps9
    go_wp2_with fail
    with_reducible refine H1.out.mono ?_
    rintro e w1 ⟨rfl, rfl⟩
    go_wp2_with fail
    with_reducible refine H2.out.mono ?_
    rintro e w1 ⟨rfl, rfl⟩
    go_wp2
    go_ret3
    exact ⟨rfl, Below.refl _ _⟩
set_option maxRecDepth 100000 in
set_option maxHeartbeats 1000000 in
theorem impl_range (s : ByteArray) (hs : s.size ≤ 1048576) (hb : s.size ≤ 100000 ∧ pack.AllBits s s.size) (a k : Int) (h : ¬ ((0 ≤ k ∧ k ≤ 12) ∧ 0 ≤ a ∧ a ≤ s.size)) (w : World) :
    Calls Tryd.prog 10 #[.string s, .int .i64 a, .int .i64 k] w fun e w' => e = .returned (.tuple #[.int .i64 0, .int .i64 0, .int .i64 2]) ∧ Below w.heap.size w w' := by
  have H1 := Lib.hid (pack.okI_calls s hs w true (by simp [hb]))
  by_cases hk : 0 ≤ k ∧ k ≤ 12
  · have H2 := Lib.hid (fun W => par_yes k hk W)
    by_cases h0 : a < 0
    · clear h hb hk
      go_enter Tryd.func10, Tryd.ntmps10
      go_wp2_with fail
      with_reducible refine H1.out.mono ?_
      rintro e w1 ⟨rfl, hb⟩
      have HB := Lib.hid hb
      clear hb
      go_wp2_with fail
      with_reducible refine (H2.out _).mono ?_
      rintro e w2 ⟨rfl, rfl⟩
      go_wp2
      go_ret3
      exact ⟨rfl, HB.out⟩
    · have h3 : (s.size : Int) < a := by omega
      clear h hb hk
      go_enter Tryd.func10, Tryd.ntmps10
      go_wp2_with fail
      with_reducible refine H1.out.mono ?_
      rintro e w1 ⟨rfl, hb⟩
      have HB := Lib.hid hb
      clear hb
      go_wp2_with fail
      with_reducible refine (H2.out _).mono ?_
      rintro e w2 ⟨rfl, rfl⟩
      go_wp2
      go_ret3
      exact ⟨rfl, HB.out⟩
  · have H2 := Lib.hid (fun W => par_no k hk W)
    clear h hb hk
    go_enter Tryd.func10, Tryd.ntmps10
    go_wp2_with fail
    with_reducible refine H1.out.mono ?_
    rintro e w1 ⟨rfl, hb⟩
    have HB := Lib.hid hb
    clear hb
    go_wp2_with fail
    with_reducible refine (H2.out _).mono ?_
    rintro e w2 ⟨rfl, rfl⟩
    go_wp2
    go_ret3
    exact ⟨rfl, HB.out⟩
set_option maxRecDepth 100000 in
set_option maxHeartbeats 1000000 in
theorem spec_yes (s : ByteArray) (hs0 : s.size ≤ 1048576) (hbits : s.size ≤ 100000 ∧ pack.AllBits s s.size) (a k : Nat) (ha : a ≤ s.size) (hk : k ≤ 12) (w : World) :
    Calls Tryd.prog 9 #[.string s, .int .i64 a, .int .i64 k] w fun e w' => e = .returned (.tuple #[.int .i64 (out (read (s.data.toList.drop a) k) a).1, .int .i64 (out (read (s.data.toList.drop a) k) a).2.1, .int .i64 (out (read (s.data.toList.drop a) k) a).2.2]) ∧ Below w.heap.size w w' := by
  have H1 := Lib.hid (pack.okS_calls s hs0 w true (by simp [hbits]))
  have H2 := Lib.hid (in_yes (k : Int) 0 12 w (by omega))
  have H3 := Lib.hid (in_yes (a : Int) 0 (s.size : Int) w (by omega))
  have H4 := Lib.hid (readS_calls s hbits.1 (drop_isBit hbits.2) a k ha hk w)
  generalize out (read (s.data.toList.drop a) k) a = o at *
  clear hbits
  go_enter Tryd.func9, Tryd.ntmps9
  go_wp2_with fail
  with_reducible refine H1.out.mono ?_
  rintro e w1 ⟨rfl, rfl⟩
  go_wp2_with fail
  with_reducible refine H2.out.mono ?_
  rintro e w1 ⟨rfl, rfl⟩
  go_wp2_with fail
  with_reducible refine H3.out.mono ?_
  rintro e w1 ⟨rfl, rfl⟩
  go_wp2_with fail
  with_reducible refine H4.out.mono ?_
  rintro e w1 ⟨rfl, rfl⟩
  go_wp2
  go_ret3
  exact ⟨rfl, Below.refl _ _⟩
theorem meat (a0 : ByteArray) (a1 : Int) (a2 : Int) (hi1 : inI64 a1) (hi2 : inI64 a2) :
    a0.size ≤ 1048576 → ∃ (r0 : Int) (r1 : Int) (r2 : Int), (∀ (W : World), Calls Tryd.prog 9 #[.string a0, .int .i64 a1, .int .i64 a2] W fun e W' => e = .returned (.tuple #[.int .i64 r0, .int .i64 r1, .int .i64 r2]) ∧ Below W.heap.size W W') ∧ (∀ (W : World), Calls Tryd.prog 10 #[.string a0, .int .i64 a1, .int .i64 a2] W fun e W' => e = .returned (.tuple #[.int .i64 r0, .int .i64 r1, .int .i64 r2]) ∧ Below W.heap.size W W') := by
  intro hs
  by_cases hb : a0.size ≤ 100000 ∧ pack.AllBits a0 a0.size
  · by_cases h : (0 ≤ a2 ∧ a2 ≤ 12) ∧ 0 ≤ a1 ∧ a1 ≤ a0.size
    · obtain ⟨k, rfl⟩ : ∃ k : Nat, a2 = (k : Int) := ⟨a2.toNat, by omega⟩
      obtain ⟨a, rfl⟩ : ∃ a : Nat, a1 = (a : Int) := ⟨a1.toNat, by omega⟩
      exact ⟨_, _, _, fun W => spec_yes a0 hs hb a k (by omega) (by omega) W, fun W => impl_yes a0 hs hb a k (by omega) (by omega) W⟩
    · exact ⟨_, _, _, fun W => spec_range a0 hs hb a1 a2 h W, fun W => impl_range a0 hs hb a1 a2 h W⟩
  · exact ⟨_, _, _, fun W => spec_bits a0 hs hb a1 a2 W, fun W => impl_bits a0 hs hb a1 a2 W⟩
end Go.Proofs.YtjhndncmeedffaaDoor.wReadRice
