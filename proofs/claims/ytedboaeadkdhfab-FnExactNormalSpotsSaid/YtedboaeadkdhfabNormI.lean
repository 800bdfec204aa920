/-
  Proved: what the functions that look for a place outside of a box return.
  Conditions: none.
-/
import Derived.Test.YtedboaeadkdhfabNorm
namespace Go.Proofs.Ytedboaeadkdhfab.norm
open Go.ChangeShapes Go.WideShapes Go.ChangeAt Go.RowKit Go.Joins
open Go.Proofs.Ytedboaeadkdhfab.core Go.Proofs.Ytedboaeadkdhfab.rown Go.Proofs.Ytedboaeadkdhfab.stk Go.Proofs.Ytedboaeadkdhfab.boxed Go.Proofs.Ytedboaeadkdhfab.near
set_option linter.unusedVariables false
set_option linter.unusedSimpArgs false
abbrev P2 := Int × Int
/-- A list of places. -/
def SpAt (w : World) (A : Option Addr) (n : Nat) (f : Nat → P2) : Prop :=
  ∀ i, i < n → ∃ b o : Nat, A = some ⟨b, o, none⟩ ∧ b < w.heap.size ∧ w.cell? ⟨b, o + i * 2, none⟩ = some (.int .i64 (f i).1) ∧ w.cell? ⟨b, o + i * 2 + 1, none⟩ = some (.int .i64 (f i).2)
theorem SpAt.kept {w w' : World} {A : Option Addr} {n : Nat} {f : Nat → P2} (h : SpAt w A n f) (hb : Below w.heap.size w w') : SpAt w' A n f := fun i hi => by
  obtain ⟨b, o, e, h1, h2, h3⟩ := h i hi
  exact ⟨b, o, e, Nat.lt_of_lt_of_le h1 hb.size, (hb.cell (p := ⟨b, o + i * 2, none⟩) h1).trans h2, (hb.cell (p := ⟨b, o + i * 2 + 1, none⟩) h1).trans h3⟩
/-- The place lies in the box. -/
def inb (a b c d : Int) (p : P2) : Bool := decide ((a ≤ p.1 ∧ p.1 ≤ c) ∧ b ≤ p.2 ∧ p.2 ≤ d)
theorem inb_of {a b c d : Int} {p : P2} (h : inb a b c d p = true) : (a ≤ p.1 ∧ p.1 ≤ c) ∧ b ≤ p.2 ∧ p.2 ≤ d := of_decide_eq_true h
theorem pointI (x y : Int) (w : World) : Calls Try.prog 141 #[sp x y] w fun e w' => e = .returned (pt x y 0) ∧ Below w.heap.size w w' := by
  go_enter Try.func141, Try.ntmps141
  go_wp2
  exact bodyPost_ret (v := pt x y 0) (by simp [results, Try.results141, go_sem]) rfl ⟨rfl, below_alloc2 _ _ _⟩
theorem boxAtI (x y t : Int) (w : World) : Calls Try.prog 143 #[pt x y t] w fun e w' => e = .returned (bxv x y x y) ∧ Below w.heap.size w w' := by
  go_enter Try.func143, Try.ntmps143
  go_wp2
  exact bodyPost_ret (v := bxv x y x y) (by simp [results, Try.results143, go_sem]) rfl ⟨rfl, below_alloc2 _ _ _⟩
set_option maxHeartbeats 1000000 in
theorem meetsI (a b c d a' b' c' d' : Int) (w : World) : Calls Try.prog 162 #[bxv a b c d, bxv a' b' c' d'] w fun e w' => e = .returned (.bool (decide (a ≤ c' ∧ a' ≤ c ∧ b ≤ d' ∧ b' ≤ d))) ∧ Below w.heap.size w w' := by
  go_enter Try.func162, Try.ntmps162
  go_wp2
  all_goals go_ret
  all_goals refine ⟨ret_bool ?_, below_alloc2 _ _ _⟩
  all_goals
    rw [Bool.eq_iff_iff]
    simp
    try omega
set_option maxHeartbeats 1000000 in
theorem withoutI (a b c d : Int) (p : P2) (r : Bool) (hr : inb a b c d p = r) (w : World) : Calls Try.prog 85 #[bxv a b c d, sp p.1 p.2] w fun e w' => e = .returned (.bool (!r)) ∧ Below w.heap.size w w' := by
  obtain ⟨x, y⟩ := p
  have hm : decide (a ≤ x ∧ x ≤ c ∧ b ≤ y ∧ y ≤ d) = r := by
    rw [← hr]
    unfold inb
    exact decide_eq_decide.2 (by simp only; omega)
  have HM := Lib.hid (fun W => meetsI a b c d x y x y W)
  rw [hm] at HM
  clear hm hr
  have BA := Lib.hid (below_alloc2 w (.cells #[.int .i64 a, .int .i64 b, .int .i64 c, .int .i64 d] 30) (.cells #[.int .i64 x, .int .i64 y] 87))
  have k0 : ((w.alloc (.cells #[.int .i64 a, .int .i64 b, .int .i64 c, .int .i64 d] 30)).alloc (.cells #[.int .i64 x, .int .i64 y] 87)).heap[w.heap.size]? = some (.cells #[.int .i64 a, .int .i64 b, .int .i64 c, .int .i64 d] 30 (0, 0)) := by
    rw [Below.heap_alloc _ _ _ (by simp)]; exact heap_alloc_new _ _
  have k1 : ((w.alloc (.cells #[.int .i64 a, .int .i64 b, .int .i64 c, .int .i64 d] 30)).alloc (.cells #[.int .i64 x, .int .i64 y] 87)).heap[w.heap.size + 1]? = some (.cells #[.int .i64 x, .int .i64 y] 87 (0, 0)) := by
    have := heap_alloc_new (w.alloc (.cells #[.int .i64 a, .int .i64 b, .int .i64 c, .int .i64 d] 30)) (.cells #[.int .i64 x, .int .i64 y] 87)
    simpa using this
  obtain ⟨w0, hw0⟩ : ∃ v, v = (w.alloc (.cells #[.int .i64 a, .int .i64 b, .int .i64 c, .int .i64 d] 30)).alloc (.cells #[.int .i64 x, .int .i64 y] 87) := ⟨_, rfl⟩
  rw [← hw0] at BA k0 k1
  have c0 := cell_kept (w := w0) (a := ⟨w.heap.size, 0, none⟩) (v := .int .i64 a) (block_size k0) (by rw [cell_of_block k0]; rfl)
  have c1 := cell_kept (w := w0) (a := ⟨w.heap.size, 1, none⟩) (v := .int .i64 b) (block_size k0) (by rw [cell_of_block k0]; rfl)
  have c2 := cell_kept (w := w0) (a := ⟨w.heap.size, 2, none⟩) (v := .int .i64 c) (block_size k0) (by rw [cell_of_block k0]; rfl)
  have c3 := cell_kept (w := w0) (a := ⟨w.heap.size, 3, none⟩) (v := .int .i64 d) (block_size k0) (by rw [cell_of_block k0]; rfl)
  have c4 := cell_kept (w := w0) (a := ⟨w.heap.size + 1, 0, none⟩) (v := .int .i64 x) (block_size k1) (by rw [cell_of_block k1]; rfl)
  have c5 := cell_kept (w := w0) (a := ⟨w.heap.size + 1, 1, none⟩) (v := .int .i64 y) (block_size k1) (by rw [cell_of_block k1]; rfl)
  clear k0 k1
  go_enter Try.func85, Try.ntmps85
  go_wp2
  rw [← hw0]
  clear hw0
  have hmx := mixed
  refine wp_region_quiet_kept (by assumption) (by kernel_rfl) ?_
  repeat (first | go_big_quiet_step ((first | (go_at_call 141; exact Calls.kept_of (pointI _ _ _)) | (go_at_call 143; exact Calls.kept_of (boxAtI _ _ _ _)) | (go_at_call 162; exact Calls.kept_of (HM.out _)))) | quiet_step ((first | (go_at_call 141; exact Calls.kept_of (pointI _ _ _)) | (go_at_call 143; exact Calls.kept_of (boxAtI _ _ _ _)) | (go_at_call 162; exact Calls.kept_of (HM.out _)))))
  refine wpQuiet_nil ?_
  intro w1 hw'
  have hB : Below w0.heap.size w0 w1 := by obtain ⟨⟨wk, hb0⟩, hw''⟩ := hw'; rw [hw'']; exact hb0
  have HB := Lib.hid (BA.out.trans (hB.mono BA.out.size))
  clear hw' hB c0 c1 c2 c3 c4 c5
  cases r
  all_goals
    go_wp2
    go_ret
    exact ⟨rfl, HB.out⟩
set_option maxRecDepth 100000 in
set_option maxHeartbeats 2000000 in
theorem indexI {cc : Nat} (a b c d : Int) (A : Option Addr) (n : Nat) (f : Nat → P2) (r : Bool) (w : World) (hn : n ≤ 1048576) (hr : r = true ↔ ∀ i, i < n → inb a b c d (f i) = true) (hp : SpAt w A n f) :
    Calls Try.prog 161 #[.slice A n cc, .func (.func 85) #[bxv a b c d] #[]] w fun e w' => (∃ k : Int, e = .returned (.int .i64 k) ∧ decide (0 ≤ k) = !r) ∧ Below w.heap.size w w' := by
  have HP := Lib.hid hp
  have HR := Lib.hid hr
  clear hp hr
  go_enter Try.func161, Try.ntmps161
  go_wp2
  go_loopw [8] (fun i w' => ∃ k : Nat, k ≤ n ∧ i = .int .i64 (k : Int) ∧ Hid (∀ j, j < k → inb a b c d (f j) = true) ∧ Hid (Below w.heap.size w w')) (fun i _ => n - (intOf i).toNat)
  case atStart => exact ⟨0, Nat.zero_le _, rfl, Lib.hid (fun j hj => absurd hj (by omega)), Lib.hid (Below.refl _ _)⟩
  case round =>
    obtain ⟨k, hk, rfl, HE, HB⟩ := hrel
    by_cases hlt : k < n
    · obtain ⟨g, o, rfl, hg, p0, p1⟩ := (HP.out.kept HB.out) k hlt
      have hli : (k : Int) < (n : Int) := by omega
      cases hi : inb a b c d (f k) with
      | true =>
        have HE2 := Lib.hid (show ∀ j, j < k + 1 → inb a b c d (f j) = true from fun j hj => by
          rcases Nat.lt_or_ge j k with h' | h'
          · exact HE.out j h'
          · obtain rfl : j = k := by omega
            exact hi)
        have HI := Lib.hid (fun W => withoutI a b c d (f k) true hi W)
        obtain ⟨p, hpk⟩ : ∃ p, f k = p := ⟨_, rfl⟩
        rw [hpk] at p0 p1 HI
        clear hi hpk HE
        go_wp2_with fail
        with_reducible refine (HI.out _).mono ?_
        rintro e w2 ⟨rfl, hb2⟩
        have HB2 := Lib.hid (HB.out.trans (hb2.mono HB.out.size))
        clear hb2 p0 p1
        go_wp2
        go_roundw
        case rel => exact ⟨k + 1, by omega, by go_num, HE2, HB2⟩
        case measure => simp [intOf]; omega
      | false =>
        have HF := Lib.hid (show r = false by
          cases hh : r
          · rfl
          · have := HR.out.1 hh k hlt
            rw [hi] at this
            cases this)
        have HI := Lib.hid (fun W => withoutI a b c d (f k) false hi W)
        obtain ⟨p, hpk⟩ : ∃ p, f k = p := ⟨_, rfl⟩
        rw [hpk] at p0 p1 HI
        clear hi hpk HE
        go_wp2_with fail
        with_reducible refine (HI.out _).mono ?_
        rintro e w2 ⟨rfl, hb2⟩
        have HB2 := Lib.hid (HB.out.trans (hb2.mono HB.out.size))
        clear hb2 p0 p1
        go_wp2
        go_ret
        exact ⟨⟨(k : Int), rfl, by rw [HF.out, decide_eq_true (by omega)]; rfl⟩, HB2.out⟩
    · obtain rfl : k = n := by omega
      have HF := Lib.hid (HR.out.2 HE.out)
      go_wp2
      go_ret
      exact ⟨⟨-1, rfl, by rw [HF.out]; rfl⟩, HB.out⟩
theorem containsI {cc : Nat} (a b c d : Int) (A : Option Addr) (n : Nat) (f : Nat → P2) (r : Bool) (w : World) (hn : n ≤ 1048576) (hr : r = true ↔ ∀ i, i < n → inb a b c d (f i) = true) (hp : SpAt w A n f) :
    Calls Try.prog 84 #[.slice A n cc, .func (.func 85) #[bxv a b c d] #[]] w fun e w' => e = .returned (.bool (!r)) ∧ Below w.heap.size w w' := by
  have HC := Lib.hid (indexI (cc := cc) a b c d A n f r w hn hr hp)
  clear hr hp
  go_enter Try.func84, Try.ntmps84
  go_wp2_with fail
  refine HC.out.mono ?_
  rintro e w1 ⟨⟨k, rfl, hk⟩, hb⟩
  have HK := Lib.hid hk
  have HB := Lib.hid hb
  clear hk hb
  by_cases h : 0 ≤ k
  · have HK2 := Lib.hid (show true = !r by rw [← HK.out, decide_eq_true h])
    go_wp2
    go_ret
    exact ⟨by first | exact ret_bool HK2.out | exact ret_bool HK.out, HB.out⟩
  · have HK2 := Lib.hid (show false = !r by rw [← HK.out, decide_eq_false h])
    go_wp2
    go_ret
    exact ⟨by first | exact ret_bool HK2.out | exact ret_bool HK.out, HB.out⟩
end Go.Proofs.Ytedboaeadkdhfab.norm
