/-
  Proved: both functions return the same Rice code.
  Conditions: none.
-/
import Derived.Test.YtjhndncmeedffaaDoorRiceE
import Derived.Test.YtjhndncmeedffaaDoorRng
namespace Go.Proofs.YtjhndncmeedffaaDoor.wRiceBits
open Go.ChangeShapes Go.WideShapes Go.ChangeAt Go.RowKit Go.Joins
open Go.Proofs.YtjhndncmeedffaaDoor.core Go.Proofs.YtjhndncmeedffaaDoor.rows Go.Proofs.YtjhndncmeedffaaDoor.bits Go.Proofs.YtjhndncmeedffaaDoor.numS Go.Proofs.YtjhndncmeedffaaDoor.writer Go.Proofs.YtjhndncmeedffaaDoor.riceS Go.Proofs.YtjhndncmeedffaaDoor.riceI Go.Proofs.YtjhndncmeedffaaDoor.ints
set_option linter.unusedVariables false
set_option linter.unusedSimpArgs false

theorem one_ints (n : Int) (hn : inI64 n) (w : World) : IntsAt (w.alloc (.cells #[.int .i64 n] 2)) (some ⟨w.heap.size, 0, none⟩) 1 (fun _ => n) := fun i hi => by
  obtain rfl : i = 0 := by omega
  exact ⟨w.heap.size, 0, rfl, by simp, by simp, hn⟩
theorem in_call (n : Int) (hn : inI64 n) (r : Bool) (hr : r = true ↔ -1000000000 ≤ n ∧ n ≤ 1000000000) (w : World) :
    Calls Tryd.prog 29 #[.int .i64 1000000000, .slice (some ⟨w.heap.size, 0, none⟩) 1 1] (w.alloc (.cells #[.int .i64 n] 2)) fun e w' => e = .returned (.bool r) ∧ w.alloc (.cells #[.int .i64 n] 2) = w' :=
  within_calls 1000000000 (by decide) (by decide) _ 1 1 (fun _ => n) _ (by unfold maxLen; omega) (one_ints n hn w) r (by rw [hr]; exact ⟨fun h i _ => h, fun h => h 0 (by omega)⟩)

set_option maxRecDepth 100000 in
set_option maxHeartbeats 1000000 in
theorem impl_no (n k : Int) (hi : inI64 n) (h : ¬ ((-1000000000 ≤ n ∧ n ≤ 1000000000) ∧ 0 ≤ k ∧ k ≤ 12)) (w : World) :
    Calls Tryd.prog 14 #[.int .i64 n, .int .i64 k] w fun e w' => e = .returned (.tuple #[.string ⟨#[]⟩, .int .i64 2]) ∧ Below w.heap.size w w' := by
  by_cases hn : -1000000000 ≤ n ∧ n ≤ 1000000000
  · have H1 := Lib.hid (in_call n hi true (by simp [hn]) w)
    have H2 := Lib.hid (par_no k (fun x => h ⟨hn, x⟩) (w.alloc (.cells #[.int .i64 n] 2)))
    clear h hn hi
    go_enter Tryd.func14, Tryd.ntmps14
    go_wp2_with fail
    with_reducible refine H1.out.mono ?_
    rintro e w1 ⟨rfl, rfl⟩
    go_wp2_with fail
    with_reducible refine H2.out.mono ?_
    rintro e w1 ⟨rfl, rfl⟩
    go_wp2
    go_ret2
    exact ⟨rfl, below_alloc1 _ _⟩
  · have H1 := Lib.hid (in_call n hi false (by simp; omega) w)
    clear h hn hi
    go_enter Tryd.func14, Tryd.ntmps14
    go_wp2_with fail
    with_reducible refine H1.out.mono ?_
    rintro e w1 ⟨rfl, rfl⟩
    go_wp2
    go_ret2
    exact ⟨rfl, below_alloc1 _ _⟩
set_option maxRecDepth 100000 in
set_option maxHeartbeats 2000000 in
theorem impl_yes (n : Int) (k : Nat) (h : -1000000000 ≤ n ∧ n ≤ 1000000000) (hk : k ≤ 12) (w : World) :
    Calls Tryd.prog 14 #[.int .i64 n, .int .i64 k] w fun e w' => e = .returned (.tuple #[.string ⟨(rice n k).toArray⟩, .int .i64 0]) ∧ Below w.heap.size w w' := by
  have hi : inI64 n := ⟨by omega, by omega⟩
  have H1 := Lib.hid (in_call n hi true (by simp [h]) w)
  have H2 := Lib.hid (par_yes (k : Int) (by omega) (w.alloc (.cells #[.int .i64 n] 2)))
  have H3 := Lib.hid (encoder_calls (w.heap.size + 1) k hk ((w.alloc (.cells #[.int .i64 n] 2)).alloc (.cells #[.pointer none, .slice none 0 0] 52)) (by simp))
  have es : ((w.alloc (.cells #[.int .i64 n] 2)).alloc (.cells #[.pointer none, .slice none 0 0] 52)).heap.size = w.heap.size + 1 + 1 := by simp
  simp only [es] at H3
  have HES := Lib.hid es
  clear es
  have HNE := Lib.hid (rice_pos n k)
  have HH := Lib.hid h
  clear h hi
  go_enter Tryd.func14, Tryd.ntmps14
  go_wp2_with fail
  with_reducible refine H1.out.mono ?_
  rintro e w1 ⟨rfl, rfl⟩
  go_wp2_with fail
  with_reducible refine H2.out.mono ?_
  rintro e w1 ⟨rfl, rfl⟩
  go_wp2_with fail
  with_reducible refine H3.out.mono ?_
  rintro e w1 ⟨rfl, hE, hb⟩
  have hb2 : Below ((w.alloc (.cells #[.int .i64 n] 2)).alloc (.cells #[.pointer none, .slice none 0 0] 52)).heap.size ((w.alloc (.cells #[.int .i64 n] 2)).alloc (.cells #[.pointer none, .slice none 0 0] 52)) w1 := by rw [HES.out]; exact hb
  have HW : Hid (Wr (w.heap.size + 1) (w.heap.size + 1) [] w1) := by
    have h0 := wr_start (w.alloc (.cells #[.int .i64 n] 2))
    have hs : (w.alloc (.cells #[.int .i64 n] 2)).heap.size = w.heap.size + 1 := by simp
    rw [hs] at h0
    rcases h0 with ⟨hB, v, hbk, hown, hne⟩ | ⟨hB, v, hbk, hown, hne⟩
    · refine Lib.hid (.inl ⟨hB, v, (hb2.block _ (Array.getElem?_eq_some_iff.1 hbk).1).trans hbk, ?_, hne⟩)
      exact ownsRow_kept hown hb2
    · refine Lib.hid (.inr ⟨hB, v, (hb2.block _ (Array.getElem?_eq_some_iff.1 hbk).1).trans hbk, ?_, hne⟩)
      exact ownsRow_kept hown hb2
  have hz : w.heap.size + 1 + 1 ≤ w1.heap.size := by rw [← HES.out]; exact hb.size
  have HC := Lib.hid (encode_calls (w.heap.size + 1) (w.heap.size + 1) _ _ _ k [] n HH.out hk w1 hE HW.out (by simp) (by omega))
  have HB := Lib.hid (((below_alloc1 w _).trans ((below_alloc1 _ _).mono (by simp))).trans (hb.mono (by omega)))
  clear hE hb hb2 HW H3
  go_wp2_with fail
  with_reducible refine HC.out.mono ?_
  rintro e w2 ⟨rfl, h⟩
  have HD := Lib.hid (bits_some (w.heap.size + 1) (w.heap.size + 1) _ w2 h.wr (fun e => by have := HNE.out; simp at e; rw [e] at this; simp at this))
  have HB2 := Lib.hid (HB.out.trans (h.below.mono (by omega)))
  clear h HC HB
  go_wp2_with fail
  refine HD.out.mono ?_
  rintro e w3 ⟨rfl, h⟩
  have HB3 := Lib.hid (HB2.out.trans (h.mono (by omega)))
  clear h HD HB2
  go_wp2
  go_ret2
  exact ⟨rfl, HB3.out⟩
end Go.Proofs.YtjhndncmeedffaaDoor.wRiceBits
