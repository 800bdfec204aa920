/-
  Proved: what the functions on boxes that normalization calls return.
  Conditions: the box is valid, and the place lies in it.
-/
import Derived.Test.YtedboaeadkdhfabNear
import Derived.Test.YtedboaeadkdhfabBoxed
import Derived.Test.YtedboaeadkdhfabView
import Derived.BigQuiet
import Derived.BigRegion
import Derived.Deep.RegionHeld3
import Derived.StillTailTactics
import Derived.Lib.MinMax
import Derived.Deep.DeepCutAuto
namespace Go.Proofs.Ytedboaeadkdhfab.norm
open Go.ChangeShapes Go.WideShapes Go.ChangeAt Go.RowKit Go.Joins
open Go.Proofs.Ytedboaeadkdhfab.core Go.Proofs.Ytedboaeadkdhfab.rown Go.Proofs.Ytedboaeadkdhfab.stk Go.Proofs.Ytedboaeadkdhfab.boxed Go.Proofs.Ytedboaeadkdhfab.near
set_option linter.unusedVariables false
set_option linter.unusedSimpArgs false
abbrev bxv (a b c d : Int) : Value := .agg #[.int .i64 a, .int .i64 b, .int .i64 c, .int .i64 d]
abbrev sp (x y : Int) : Value := .agg #[.int .i64 x, .int .i64 y]
def okB (a b c d : Int) : Bool := decide ((0 ≤ a ∧ a ≤ c) ∧ (0 ≤ b ∧ b ≤ d) ∧ c ≤ 4095 ∧ d ≤ 4095)
theorem okB_of {a b c d : Int} (h : okB a b c d = true) : (0 ≤ a ∧ a ≤ c) ∧ (0 ≤ b ∧ b ≤ d) ∧ c ≤ 4095 ∧ d ≤ 4095 := of_decide_eq_true h
theorem ret_bool {a b : Bool} (h : a = b) : Ending.returned (.bool a) = .returned (.bool b) := by rw [h]
theorem mixed : Try.prog.follows .mixedOrders = true := by kernel_rfl
theorem in_calls (x lo hi : Int) (w : World) : Calls Try.prog 80 #[.int .i64 x, .int .i64 lo, .int .i64 hi] w fun e w' => e = .returned (.bool (decide (lo ≤ x ∧ x ≤ hi))) ∧ w = w' := by
  go_enter Try.func80, Try.ntmps80
  go_wp2
  all_goals go_ret
  all_goals exact ⟨ret_bool (by first | rfl | (rw [Bool.eq_iff_iff]; simp; try omega)), rfl⟩
theorem in_t (x lo hi : Int) (h : lo ≤ x ∧ x ≤ hi) (w : World) : Calls Try.prog 80 #[.int .i64 x, .int .i64 lo, .int .i64 hi] w fun e w' => e = .returned (.bool true) ∧ w = w' :=
  (in_calls x lo hi w).mono fun _ _ ⟨he, hw⟩ => ⟨by rw [he, decide_eq_true h], hw⟩
theorem in_f (x lo hi : Int) (h : ¬ (lo ≤ x ∧ x ≤ hi)) (w : World) : Calls Try.prog 80 #[.int .i64 x, .int .i64 lo, .int .i64 hi] w fun e w' => e = .returned (.bool false) ∧ w = w' :=
  (in_calls x lo hi w).mono fun _ _ ⟨he, hw⟩ => ⟨by rw [he, decide_eq_false h], hw⟩
set_option maxHeartbeats 1000000 in
theorem boxS (a b c d : Int) (r : Bool) (hr : okB a b c d = r) (w : World) : Calls Try.prog 79 #[bxv a b c d] w fun e w' => e = .returned (.bool r) ∧ Below w.heap.size w w' := by
  subst hr
  go_enter Try.func79, Try.ntmps79
  by_cases hx : 0 ≤ a ∧ a ≤ c
  · go_wp2_with fail
    refine (in_t _ _ _ hx _).mono ?_
    rintro e w2 ⟨rfl, rfl⟩
    by_cases hy : 0 ≤ b ∧ b ≤ d
    · go_wp2_with fail
      refine (in_t _ _ _ hy _).mono ?_
      rintro e w2 ⟨rfl, rfl⟩
      go_wp2
      all_goals go_ret
      all_goals refine ⟨ret_bool ?_, below_alloc1 _ _⟩
      all_goals
        unfold okB
        rw [Bool.eq_iff_iff]
        simp
        try omega
    · go_wp2_with fail
      refine (in_f _ _ _ hy _).mono ?_
      rintro e w2 ⟨rfl, rfl⟩
      go_wp2
      go_ret
      exact ⟨by rw [show okB a b c d = false from decide_eq_false (fun h => hy h.2.1)]; rfl, below_alloc1 _ _⟩
  · go_wp2_with fail
    refine (in_f _ _ _ hx _).mono ?_
    rintro e w2 ⟨rfl, rfl⟩
    go_wp2
    go_ret
    exact ⟨by rw [show okB a b c d = false from decide_eq_false (fun h => hx h.1)]; rfl, below_alloc1 _ _⟩
set_option maxHeartbeats 1000000 in
theorem boxI (a b c d : Int) (r : Bool) (hr : okB a b c d = r) (w : World) : Calls Try.prog 83 #[bxv a b c d] w fun e w' => e = .returned (.bool r) ∧ Below w.heap.size w w' := by
  subst hr
  go_enter Try.func83, Try.ntmps83
  go_wp2
  all_goals go_ret
  all_goals refine ⟨ret_bool ?_, below_alloc1 _ _⟩
  all_goals
    unfold okB
    rw [Bool.eq_iff_iff]
    simp
    try omega
/-- The side of the square of a box. -/
def sd (a b c d : Int) : Int := max 1 (max (c - a) (d - b))
theorem sd_in {a b c d : Int} (h : okB a b c d = true) : 1 ≤ sd a b c d ∧ sd a b c d ≤ 4095 ∧ c - a ≤ sd a b c d ∧ d - b ≤ sd a b c d := by
  have := okB_of h
  unfold sd
  omega
theorem max_calls (a b : Int) (w : World) : Calls Try.prog 140 #[.int .i64 a, .int .i64 b] w fun e w' => e = .returned (.int .i64 (max a b)) ∧ w = w' := by
  go_enter Try.func140, Try.ntmps140
  by_cases h : b < a
  · go_wp2
    go_ret
    exact ⟨by rw [show max a b = a by omega]; rfl, rfl⟩
  · go_wp2
    go_ret
    exact ⟨by rw [show max a b = b by omega]; rfl, rfl⟩
set_option maxHeartbeats 1000000 in
theorem sideS (a b c d : Int) (h : okB a b c d = true) (w : World) : Calls Try.prog 106 #[bxv a b c d] w fun e w' => e = .returned (.int .i64 (sd a b c d)) ∧ Below w.heap.size w w' := by
  have hb := okB_of h
  clear h
  have HS := Lib.hid (show max 1 (max (c - a) (d - b)) = sd a b c d from rfl)
  go_enter Try.func106, Try.ntmps106
  go_wp2_with fail
  refine (max_calls _ _ _).mono ?_
  rintro e w2 ⟨rfl, rfl⟩
  go_wp2_with fail
  refine (max_calls _ _ _).mono ?_
  rintro e w2 ⟨rfl, rfl⟩
  rw [HS.out]
  go_wp2
  go_ret
  exact ⟨rfl, below_alloc1 _ _⟩
set_option maxHeartbeats 1000000 in
theorem widthI (a b c d : Int) (h : okB a b c d = true) (w : World) : Calls Try.prog 87 #[bxv a b c d] w fun e w' => e = .returned (.int .i64 (c - a)) ∧ Below w.heap.size w w' := by
  have hb := okB_of h
  clear h
  go_enter Try.func87, Try.ntmps87
  go_wp2
  go_ret
  exact ⟨rfl, below_alloc1 _ _⟩
set_option maxHeartbeats 1000000 in
theorem heightI (a b c d : Int) (h : okB a b c d = true) (w : World) : Calls Try.prog 89 #[bxv a b c d] w fun e w' => e = .returned (.int .i64 (d - b)) ∧ Below w.heap.size w w' := by
  have hb := okB_of h
  clear h
  go_enter Try.func89, Try.ntmps89
  go_wp2
  go_ret
  exact ⟨rfl, below_alloc1 _ _⟩
/-- What stands before a distance in the middle of the square. -/
def mg (x s : Int) : Int := (255 - x * 255 / s) / 2
theorem mg_q {x s : Int} (h0 : 0 ≤ x) (h1 : x ≤ s) (h2 : 1 ≤ s) : 0 ≤ x * 255 / s ∧ x * 255 / s ≤ 255 := by
  refine ⟨Int.ediv_nonneg (by omega) (by omega), ?_⟩
  refine Int.ediv_le_of_le_mul (by omega) ?_
  omega
theorem mg_in {x s : Int} (h0 : 0 ≤ x) (h1 : x ≤ s) (h2 : 1 ≤ s) : 0 ≤ mg x s ∧ mg x s ≤ 127 := by
  have := mg_q h0 h1 h2
  unfold mg
  omega
set_option maxHeartbeats 1000000 in
theorem marginI (x s : Int) (h0 : 0 ≤ x) (h1 : x ≤ s) (h2 : 1 ≤ s) (h3 : s ≤ 4095) (w : World) : Calls Try.prog 86 #[.int .i64 x, .int .i64 s] w fun e w' => e = .returned (.int .i64 (mg x s)) ∧ w = w' := by
  have hq := mg_q h0 h1 h2
  have HM := Lib.hid (show (255 - x * 255 / s) / 2 = mg x s from rfl)
  have e1 : (x * 255).tdiv s = x * 255 / s := Int.tdiv_eq_ediv_of_nonneg (by omega)
  have e2 : (255 - x * 255 / s).tdiv 2 = (255 - x * 255 / s) / 2 := Int.tdiv_eq_ediv_of_nonneg (by omega)
  obtain ⟨q, hqq⟩ : ∃ q, x * 255 / s = q := ⟨_, rfl⟩
  rw [hqq] at hq e1 e2 HM
  have hs : ¬ s = 0 := by omega
  have hs2 : (s == 0) = false := by simp; omega
  clear hqq
  go_enter Try.func86, Try.ntmps86
  go_wp2
  go_ret
  exact ⟨by rw [HM.out]; rfl, rfl⟩
/-- The block is a box of four numbers, and nothing of the first world has turned. -/
abbrev SB (w : World) (g : Nat) (a b c d : Int) (W : World) : Prop := W.cell? ⟨g, 0, none⟩ = some (.int .i64 a) ∧ W.cell? ⟨g, 1, none⟩ = some (.int .i64 b) ∧ W.cell? ⟨g, 2, none⟩ = some (.int .i64 c) ∧ W.cell? ⟨g, 3, none⟩ = some (.int .i64 d) ∧ g < W.heap.size ∧ Below w.heap.size w W
theorem SB_kept {w : World} {g : Nat} {a b c d : Int} {W W' : World} (hb : Below W.heap.size W W') (h : SB w g a b c d W) : SB w g a b c d W' := by
  obtain ⟨h0, h1, h2, h3, hz, hB⟩ := h
  exact ⟨(hb.cell (p := ⟨g, 0, none⟩) hz).trans h0, (hb.cell (p := ⟨g, 1, none⟩) hz).trans h1, (hb.cell (p := ⟨g, 2, none⟩) hz).trans h2, (hb.cell (p := ⟨g, 3, none⟩) hz).trans h3, Nat.lt_of_lt_of_le hz hb.size, hB.trans (hb.mono hB.size)⟩
theorem SB_drew {w : World} {g : Nat} {a b c d : Int} {W : World} (h : SB w g a b c d W) : SB w g a b c d W.drew := SB_kept ((Below.refl _ _).drew) h
theorem SB_new (w : World) (a b c d : Int) (T : TypeId) : SB w w.heap.size a b c d (w.alloc (.cells #[.int .i64 a, .int .i64 b, .int .i64 c, .int .i64 d] T)) :=
  ⟨by simp, by simp, by simp, by simp, by simp, below_alloc1 _ _⟩
theorem run_max3 {P : Program} (w : World) (ts : Array TypeId) (t : TypeId) (x y z : Int) : (Builtin.max_ ts t #[.int .i64 x, .int .i64 y, .int .i64 z]).run P w = .ok (.int .i64 (max (max x y) z)) w := by
  have e : ∀ p q : Int, (if q > p then q else p) = max p q := fun p q => by
    rw [Int.max_def]
    split <;> split <;> omega
  have e' : ∀ p q : Int, (if p < q then q else p) = max p q := e
  simp [Builtin.max_, Builtin.max2, e, e', go_sem]
set_option maxHeartbeats 1000000 in
theorem sideI (a b c d : Int) (h : okB a b c d = true) (w : World) : Calls Try.prog 88 #[bxv a b c d] w fun e w' => e = .returned (.int .i64 (sd a b c d)) ∧ Below w.heap.size w w' := by
  have HW := Lib.hid (fun W => widthI a b c d h W)
  have HH := Lib.hid (fun W => heightI a b c d h W)
  have hb := okB_of h
  have HS := Lib.hid (show max (c - a) (max (d - b) 1) = sd a b c d by unfold sd; omega)
  have hk := SB_new w a b c d 30
  have hmax := fun (W : World) => run_max3 (P := Try.prog) W #[2, 2, 2] 2 (c - a) (d - b) 1
  clear h
  go_enter Try.func88, Try.ntmps88
  go_wp2
  go_region_held3 (fun W => W.cell? ⟨w.heap.size, 0, none⟩ = some (.int .i64 a) ∧ W.cell? ⟨w.heap.size, 1, none⟩ = some (.int .i64 b) ∧ W.cell? ⟨w.heap.size, 2, none⟩ = some (.int .i64 c) ∧ W.cell? ⟨w.heap.size, 3, none⟩ = some (.int .i64 d) ∧ w.heap.size < W.heap.size ∧ Below w.heap.size w W) (first | assumption | exact SB_drew hk | go_keep)
    (first | (go_at_call 87; (with_reducible refine (HW.out _).mono ?_); rintro e wc ⟨rfl, hbc⟩; have hkc := SB_kept hbc (by assumption)) | (go_at_call 89; (with_reducible refine (HH.out _).mono ?_); rintro e wd ⟨rfl, hbd⟩; have hkd := SB_kept hbd (by assumption)))
  all_goals
    rename_i hh
    have HB := Lib.hid hh.2.2.2.2.2
    clear hh
    go_wp2
    go_ret
    exact ⟨by rw [← HS.out]; rfl, HB.out⟩
/-- Besides: a place. -/
abbrev SD (w : World) (g h : Nat) (a b c d x y : Int) (W : World) : Prop := W.cell? ⟨g, 0, none⟩ = some (.int .i64 a) ∧ W.cell? ⟨g, 1, none⟩ = some (.int .i64 b) ∧ W.cell? ⟨g, 2, none⟩ = some (.int .i64 c) ∧ W.cell? ⟨g, 3, none⟩ = some (.int .i64 d) ∧ W.cell? ⟨h, 0, none⟩ = some (.int .i64 x) ∧ W.cell? ⟨h, 1, none⟩ = some (.int .i64 y) ∧ g < W.heap.size ∧ h < W.heap.size ∧ Below w.heap.size w W
theorem SD_kept {w : World} {g h : Nat} {a b c d x y : Int} {W W' : World} (hb : Below W.heap.size W W') (hh : SD w g h a b c d x y W) : SD w g h a b c d x y W' := by
  obtain ⟨h0, h1, h2, h3, h4, h5, z0, z1, hB⟩ := hh
  have hs := hb.size
  exact ⟨(hb.cell (p := ⟨g, 0, none⟩) z0).trans h0, (hb.cell (p := ⟨g, 1, none⟩) z0).trans h1, (hb.cell (p := ⟨g, 2, none⟩) z0).trans h2, (hb.cell (p := ⟨g, 3, none⟩) z0).trans h3, (hb.cell (p := ⟨h, 0, none⟩) z1).trans h4, (hb.cell (p := ⟨h, 1, none⟩) z1).trans h5, by omega, by omega, hB.trans (hb.mono hB.size)⟩
theorem SD_drew {w : World} {g h : Nat} {a b c d x y : Int} {W : World} (hh : SD w g h a b c d x y W) : SD w g h a b c d x y W.drew := SD_kept ((Below.refl _ _).drew) hh
theorem SD_store {w : World} {g h r : Nat} {a b c d x y : Int} {W : World} {u v : Value} (hh : SD w g h a b c d x y W) (hr : w.heap.size ≤ r) (hg : g ≠ r) (hh' : h ≠ r) : SD w g h a b c d x y ((W.setCell ⟨r, 0, none⟩ u).setCell ⟨r, 1, none⟩ v) := by
  obtain ⟨h0, h1, h2, h3, h4, h5, z0, z1, hB⟩ := hh
  have ek : ∀ k, k ≠ r → ((W.setCell ⟨r, 0, none⟩ u).setCell ⟨r, 1, none⟩ v).heap[k]? = W.heap[k]? := fun k hk => by
    rw [Below.heap_setCell _ _ _ _ (by simpa using hk), Below.heap_setCell _ _ _ _ (by simpa using hk)]
  exact ⟨(World.cell?_of_block (ek g hg)).trans h0, (World.cell?_of_block (ek g hg)).trans h1, (World.cell?_of_block (ek g hg)).trans h2, (World.cell?_of_block (ek g hg)).trans h3, (World.cell?_of_block (ek h hh')).trans h4, (World.cell?_of_block (ek h hh')).trans h5, by simpa [World.setCell] using z0, by simpa [World.setCell] using z1, (hB.setCell hr _).setCell hr _⟩
/-- The result's own block. -/
abbrev SR (r : Nat) (W : World) : Prop := W.cell? ⟨r, 0, none⟩ = some (.int .i64 0) ∧ W.cell? ⟨r, 1, none⟩ = some (.int .i64 0) ∧ (∀ i, W.frozen? ⟨r, i, none⟩ = false) ∧ r < W.heap.size
theorem SR_kept {r : Nat} {W W' : World} (hb : Below W.heap.size W W') (hh : SR r W) : SR r W' := by
  obtain ⟨h0, h1, hf, z⟩ := hh
  exact ⟨(hb.cell (p := ⟨r, 0, none⟩) z).trans h0, (hb.cell (p := ⟨r, 1, none⟩) z).trans h1, fun i => (hb.frozen (p := ⟨r, i, none⟩) z).trans (hf i), Nat.lt_of_lt_of_le z hb.size⟩
theorem SD_new (w : World) (a b c d x y : Int) (T U : TypeId) : SD w w.heap.size (w.heap.size + 1) a b c d x y (((w.alloc (.cells #[.int .i64 a, .int .i64 b, .int .i64 c, .int .i64 d] T)).alloc (.cells #[.int .i64 x, .int .i64 y] U)).alloc (.cells #[.int .i64 0, .int .i64 0] U)) ∧ SR (w.heap.size + 1 + 1) (((w.alloc (.cells #[.int .i64 a, .int .i64 b, .int .i64 c, .int .i64 d] T)).alloc (.cells #[.int .i64 x, .int .i64 y] U)).alloc (.cells #[.int .i64 0, .int .i64 0] U)) := by
  have k0 : (((w.alloc (.cells #[.int .i64 a, .int .i64 b, .int .i64 c, .int .i64 d] T)).alloc (.cells #[.int .i64 x, .int .i64 y] U)).alloc (.cells #[.int .i64 0, .int .i64 0] U)).heap[w.heap.size]? = some (.cells #[.int .i64 a, .int .i64 b, .int .i64 c, .int .i64 d] T (0, 0)) := by
    rw [Below.heap_alloc _ _ _ (by simp; omega), Below.heap_alloc _ _ _ (by simp)]; exact heap_alloc_new _ _
  have k1 : (((w.alloc (.cells #[.int .i64 a, .int .i64 b, .int .i64 c, .int .i64 d] T)).alloc (.cells #[.int .i64 x, .int .i64 y] U)).alloc (.cells #[.int .i64 0, .int .i64 0] U)).heap[w.heap.size + 1]? = some (.cells #[.int .i64 x, .int .i64 y] U (0, 0)) := by
    rw [Below.heap_alloc _ _ _ (by simp)]
    have := heap_alloc_new (w.alloc (.cells #[.int .i64 a, .int .i64 b, .int .i64 c, .int .i64 d] T)) (.cells #[.int .i64 x, .int .i64 y] U)
    simpa using this
  have k2 : (((w.alloc (.cells #[.int .i64 a, .int .i64 b, .int .i64 c, .int .i64 d] T)).alloc (.cells #[.int .i64 x, .int .i64 y] U)).alloc (.cells #[.int .i64 0, .int .i64 0] U)).heap[w.heap.size + 1 + 1]? = some (.cells #[.int .i64 0, .int .i64 0] U (0, 0)) := by
    have := heap_alloc_new ((w.alloc (.cells #[.int .i64 a, .int .i64 b, .int .i64 c, .int .i64 d] T)).alloc (.cells #[.int .i64 x, .int .i64 y] U)) (.cells #[.int .i64 0, .int .i64 0] U)
    simpa using this
  exact ⟨⟨by rw [cell_of_block k0]; rfl, by rw [cell_of_block k0]; rfl, by rw [cell_of_block k0]; rfl, by rw [cell_of_block k0]; rfl, by rw [cell_of_block k1]; rfl, by rw [cell_of_block k1]; rfl, block_size k0, block_size k1, below_alloc3 _ _ _ _⟩, ⟨by rw [cell_of_block k2]; rfl, by rw [cell_of_block k2]; rfl, unfrozen_of_block k2, block_size k2⟩⟩
theorem SD_new2 (w : World) (a b c d x y : Int) (T U : TypeId) : SD w (w.heap.size + 1) w.heap.size a b c d x y (((w.alloc (.cells #[.int .i64 x, .int .i64 y] U)).alloc (.cells #[.int .i64 a, .int .i64 b, .int .i64 c, .int .i64 d] T)).alloc (.cells #[.int .i64 0, .int .i64 0] U)) ∧ SR (w.heap.size + 1 + 1) (((w.alloc (.cells #[.int .i64 x, .int .i64 y] U)).alloc (.cells #[.int .i64 a, .int .i64 b, .int .i64 c, .int .i64 d] T)).alloc (.cells #[.int .i64 0, .int .i64 0] U)) := by
  have k0 : (((w.alloc (.cells #[.int .i64 x, .int .i64 y] U)).alloc (.cells #[.int .i64 a, .int .i64 b, .int .i64 c, .int .i64 d] T)).alloc (.cells #[.int .i64 0, .int .i64 0] U)).heap[w.heap.size]? = some (.cells #[.int .i64 x, .int .i64 y] U (0, 0)) := by
    rw [Below.heap_alloc _ _ _ (by simp; omega), Below.heap_alloc _ _ _ (by simp)]; exact heap_alloc_new _ _
  have k1 : (((w.alloc (.cells #[.int .i64 x, .int .i64 y] U)).alloc (.cells #[.int .i64 a, .int .i64 b, .int .i64 c, .int .i64 d] T)).alloc (.cells #[.int .i64 0, .int .i64 0] U)).heap[w.heap.size + 1]? = some (.cells #[.int .i64 a, .int .i64 b, .int .i64 c, .int .i64 d] T (0, 0)) := by
    rw [Below.heap_alloc _ _ _ (by simp)]
    have := heap_alloc_new (w.alloc (.cells #[.int .i64 x, .int .i64 y] U)) (.cells #[.int .i64 a, .int .i64 b, .int .i64 c, .int .i64 d] T)
    simpa using this
  have k2 : (((w.alloc (.cells #[.int .i64 x, .int .i64 y] U)).alloc (.cells #[.int .i64 a, .int .i64 b, .int .i64 c, .int .i64 d] T)).alloc (.cells #[.int .i64 0, .int .i64 0] U)).heap[w.heap.size + 1 + 1]? = some (.cells #[.int .i64 0, .int .i64 0] U (0, 0)) := by
    have := heap_alloc_new ((w.alloc (.cells #[.int .i64 x, .int .i64 y] U)).alloc (.cells #[.int .i64 a, .int .i64 b, .int .i64 c, .int .i64 d] T)) (.cells #[.int .i64 0, .int .i64 0] U)
    simpa using this
  exact ⟨⟨by rw [cell_of_block k1]; rfl, by rw [cell_of_block k1]; rfl, by rw [cell_of_block k1]; rfl, by rw [cell_of_block k1]; rfl, by rw [cell_of_block k0]; rfl, by rw [cell_of_block k0]; rfl, block_size k1, block_size k0, below_alloc3 _ _ _ _⟩, ⟨by rw [cell_of_block k2]; rfl, by rw [cell_of_block k2]; rfl, unfrozen_of_block k2, block_size k2⟩⟩
theorem mul_le {u v M N : Int} (h0 : 0 ≤ u) (h1 : u ≤ M) (h2 : 0 ≤ v) (h3 : v ≤ N) : 0 ≤ u * v ∧ u * v ≤ M * N := ⟨Int.mul_nonneg h0 h2, Int.mul_le_mul h1 h3 h2 (by omega)⟩
set_option maxRecDepth 100000 in
set_option maxHeartbeats 4000000 in
theorem scaledI (a b c d x y s : Int) (h : okB a b c d = true) (hx : a ≤ x ∧ x ≤ c) (hy : b ≤ y ∧ y ≤ d) (hs : 1 ≤ s ∧ s ≤ 4095) (w : World) :
    Calls Try.prog 90 #[bxv a b c d, sp x y, .int .i64 s] w fun e w' => e = .returned (sp (nr ((x - a) * s) (sd a b c d)) (nr ((y - b) * s) (sd a b c d))) ∧ Below w.heap.size w w' := by
  have HI := Lib.hid (fun W => sideI a b c d h W)
  have hd := sd_in h
  have hb := okB_of h
  have hm1 := mul_le (u := x - a) (v := s) (M := 4095) (N := 4095) (by omega) (by omega) (by omega) (by omega)
  have hm2 := mul_le (u := y - b) (v := s) (M := 4095) (N := 4095) (by omega) (by omega) (by omega) (by omega)
  obtain ⟨hk, hr⟩ := SD_new w a b c d x y 30 87
  have HD := Lib.hid hd
  clear h
  obtain ⟨m1, e1⟩ : ∃ m, (x - a) * s = m := ⟨_, rfl⟩
  obtain ⟨m2, e2⟩ : ∃ m, (y - b) * s = m := ⟨_, rfl⟩
  rw [e1] at hm1 ⊢
  rw [e2] at hm2 ⊢
  obtain ⟨D, hD⟩ : ∃ D, sd a b c d = D := ⟨_, rfl⟩
  rw [hD] at HI hd ⊢
  have E1 : IntKind.i64.wrap (IntKind.i64.wrap (x - a) * s) = m1 := by rw [show IntKind.i64.wrap (x - a) = x - a from IntWalk.i64_in _ (by omega), e1]; exact IntWalk.i64_in _ (by omega)
  have E2 : IntKind.i64.wrap (IntKind.i64.wrap (y - b) * s) = m2 := by rw [show IntKind.i64.wrap (y - b) = y - b from IntWalk.i64_in _ (by omega), e2]; exact IntWalk.i64_in _ (by omega)
  have H1 := Lib.hid (fun W => implNear m1 D (by omega) (by omega) (by omega) (by omega) W)
  have H2 := Lib.hid (fun W => implNear m2 D (by omega) (by omega) (by omega) (by omega) W)
  rw [← E1] at H1
  rw [← E2] at H2
  have HE1 := Lib.hid E1
  have HE2 := Lib.hid E2
  clear E1 E2
  clear e1 e2 hD HD
  go_enter Try.func90, Try.ntmps90
  go_wp2
  go_region_held3 (fun W => W.cell? ⟨w.heap.size, 0, none⟩ = some (.int .i64 a) ∧ W.cell? ⟨w.heap.size, 1, none⟩ = some (.int .i64 b) ∧ W.cell? ⟨w.heap.size, 2, none⟩ = some (.int .i64 c) ∧ W.cell? ⟨w.heap.size, 3, none⟩ = some (.int .i64 d) ∧ W.cell? ⟨w.heap.size + 1, 0, none⟩ = some (.int .i64 x) ∧ W.cell? ⟨w.heap.size + 1, 1, none⟩ = some (.int .i64 y) ∧ w.heap.size < W.heap.size ∧ w.heap.size + 1 < W.heap.size ∧ Below w.heap.size w W) (first | assumption | exact SD_drew hk | exact SD_store (by assumption) (by omega) (by omega) (by omega) | go_keep)
    (first | (go_at_call 88; (with_reducible refine (HI.out _).mono ?_); rintro e wc ⟨rfl, hbc⟩; have hkc := SD_kept hbc (by assumption); have hrc := SR_kept hbc (by first | assumption | exact hr); obtain ⟨r0, r1, rf, rz⟩ := id hrc) | (go_at_call 101; (first | (with_reducible refine (H1.out _).mono ?_) | (with_reducible refine (H2.out _).mono ?_)); rintro e wd ⟨rfl, rfl⟩))
  all_goals
    rename_i hh
    have HB := Lib.hid hh.2.2.2.2.2.2.2.2
    clear hh
    go_wp2
    exact bodyPost_ret (v := sp (nr (IntKind.i64.wrap (IntKind.i64.wrap (x - a) * s)) D) (nr (IntKind.i64.wrap (IntKind.i64.wrap (y - b) * s)) D)) (by simp [results, Try.results90, go_sem, r0, r1, rf, rz]) rfl ⟨by rw [HE1.out, HE2.out], HB.out⟩
/-- A number of a place in the square. -/
def nX (l x D : Int) : Int := l + nr (x * 255) D
theorem nr_le {m D : Int} (h0 : 0 ≤ m) (h1 : m ≤ 4095 * 4095) (h2 : 1 ≤ D) (h3 : D ≤ 4095) : -100000000 ≤ nr m D ∧ nr m D ≤ 100000000 := by
  unfold nr
  exact down_le (by omega) (by omega) (by omega)
end Go.Proofs.Ytedboaeadkdhfab.norm
