/-
  Proved: both functions that tell the mean of all points return the same place.
  Conditions: none.
-/
import Derived.Test.YtedboaeadkdhfaaFlat
import Derived.Test.YtedboaeadkdhfaaClone
import Derived.Test.YtedboaeadkdhfaaInkV
import Derived.Test.YtedboaeadkdhfaaNear
import Derived.Test.YtedboaeadkdhfaaMid
import Derived.Test.YtedboaeadkdhfaaWid
import Derived.BigQuiet
import Derived.BigRegion
import Derived.StillTailTactics
namespace Go.Proofs.Ytedboaeadkdhfaa.wCenterOf
open Go.ChangeShapes Go.WideShapes Go.ChangeAt Go.RowKit Go.Joins
open Go.Proofs.Ytedboaeadkdhfaa.clone Go.Proofs.Ytedboaeadkdhfaa.core Go.Proofs.Ytedboaeadkdhfaa.stk Go.Proofs.Ytedboaeadkdhfaa.ink Go.Proofs.Ytedboaeadkdhfaa.inkV Go.Proofs.Ytedboaeadkdhfaa.near Go.Proofs.Ytedboaeadkdhfaa.seg Go.Proofs.Ytedboaeadkdhfaa.lenI Go.Proofs.Ytedboaeadkdhfaa.rown Go.Proofs.Ytedboaeadkdhfaa.boxed Go.Proofs.Ytedboaeadkdhfaa.flat
open Go.Proofs.Ytedboaeadkdhfaa.mid (mx my mid_calls inQ)
set_option linter.unusedVariables false
set_option linter.unusedSimpArgs false
def cx (f : Nat → P3) : Nat → Int
  | 0 => 0
  | m + 1 => cx f m + (f m).1
def cy (f : Nat → P3) : Nat → Int
  | 0 => 0
  | m + 1 => cy f m + (f m).2.1
theorem c_le {f : Nat → P3} {M : Nat} (h : ∀ m, m < M → Rg (f m)) : ∀ m, m ≤ M → (0 ≤ cx f m ∧ cx f m ≤ m * 4095) ∧ 0 ≤ cy f m ∧ cy f m ≤ m * 4095
  | 0, _ => by simp [cx, cy]
  | m + 1, hm => by
    have h1 := c_le h m (by omega)
    have h2 := h m (by omega)
    unfold Rg at h2
    rw [cx, cy]
    omega
theorem fp_rg {n : Nat} {ns : Nat → Nat} {ps : Nat → Nat → P3} (hv : vI n ns ps = true) : ∀ m, m < sumTo ns n → Rg (fp n ns ps m) := fun m hm => by
  obtain ⟨h1, h2, -⟩ := loc_of ns n m hm
  exact vS_rg ((vI_of hv).2 _ h1).1 _ h2
theorem sum_pos {ns : Nat → Nat} {n : Nat} (h0 : 1 ≤ n) (h : ∀ i, i < n → 1 ≤ ns i) : 1 ≤ sumTo ns n := by
  have h1 := sumTo_lt ns (show 0 < n by omega)
  have h2 := h 0 (by omega)
  omega
theorem own_two {w : World} {a b : Int} {F : Nat → Prop} (ha : inI64 a) (hb : inI64 b) : OwnRec w 2 (fun j => if j = 0 then .int .i64 a else .int .i64 b) (fun j => if j = 0 then .int a else .int b) F :=
  ⟨fun _ _ => False, fun j hj => by
    by_cases h : j = 0
    · subst h; exact .int _ _ ha
    · simp only [if_neg h]; exact .int _ _ hb, fun _ _ _ h => h.elim, fun _ _ _ _ _ h => h.elim⟩
set_option maxRecDepth 100000 in
set_option maxHeartbeats 1000000 in
theorem count_calls {o C : Nat} (A : Option Addr) (b n : Nat) (ns : Nat → Nat) (ps : Nat → Nat → P3) (w : World) (h16 : n ≤ 16) (h60 : ∀ i, i < n → ns i ≤ 60) (hbz : b < w.heap.size) (hs : w.cell? ⟨b, o, none⟩ = some (.slice A n C)) (hp : InkAt w A n ns ps) :
    Calls Try.prog 60 #[.pointer (some ⟨b, o, none⟩)] w fun e w' => e = .returned (.int .i64 (sumTo ns n : Nat)) ∧ w = w' := by
  have HP := Lib.hid hp
  have H60 := Lib.hid (fun i (hi : i ≤ n) => sum_le (n := i) fun j hj => h60 j (by omega))
  have HL := Lib.hid h60
  clear hp h60
  go_enter Try.func60, Try.ntmps60
  go_wp2
  go_loopw [3, 4] (fun u i w' => ∃ k : Nat, k ≤ n ∧ i = .int .i64 (k : Int) ∧ u = .int .i64 (sumTo ns k : Nat) ∧ w = w') (fun _ i _ => n - (intOf i).toNat)
  case atStart => exact ⟨0, Nat.zero_le _, rfl, rfl, rfl⟩
  case round =>
    obtain ⟨k, hk, rfl, rfl, rfl⟩ := hrel
    by_cases hlt : k < n
    · obtain ⟨G, o1, rfl, hg, B, c, p0, -⟩ := HP.out k hlt
      have hli : (k : Int) < (n : Int) := by omega
      have HE := Lib.hid (show sumTo ns (k + 1) = sumTo ns k + ns k from rfl)
      have h1 := H60.out k hk
      have h2 := HL.out k hlt
      generalize sumTo ns k = S at *
      generalize ns k = m at *
      go_wp2
      go_roundw
      case rel => exact ⟨k + 1, by omega, by go_num, by rw [HE.out]; go_num, trivial⟩
      case measure => simp [intOf]; omega
    · obtain rfl : k = n := by omega
      go_wp2
      go_ret
      exact ⟨rfl, rfl⟩
set_option maxRecDepth 100000 in
set_option maxHeartbeats 4000000 in
theorem spec_no {c : Nat} (A : Option Addr) (n : Nat) (ns : Nat → Nat) (ps : Nat → Nat → P3) (w : World) (hcap : n ≤ 1048576) (hsm : ∀ i, i < n → ns i ≤ 1048576) (hp : InkAt w A n ns ps) (hv : vI n ns ps = false) :
    Calls Try.prog 38 #[.agg #[.slice A n c]] w fun e w' => e = .returned (.tuple #[.agg #[.int .i64 0, .int .i64 0], .int .i64 1]) ∧ Below w.heap.size w w' := by
  have B0 := Lib.hid (below_alloc2 w (.cells #[.slice A n c] 56) (.cells #[.int .i64 0, .int .i64 0] 45))
  have K1 := Lib.hid (show ((w.alloc (.cells #[.slice A n c] 56)).alloc (.cells #[.int .i64 0, .int .i64 0] 45)).heap[w.heap.size]? = some (.cells #[.slice A n c] 56 (0, 0)) by rw [Below.heap_alloc _ _ _ (by simp)]; exact heap_alloc_new _ _)
  have K2 := Lib.hid (show ((w.alloc (.cells #[.slice A n c] 56)).alloc (.cells #[.int .i64 0, .int .i64 0] 45)).heap[w.heap.size + 1]? = some (.cells #[.int .i64 0, .int .i64 0] 45 (0, 0)) by have := heap_alloc_new (w.alloc (.cells #[.slice A n c] 56)) (.cells #[.int .i64 0, .int .i64 0] 45); simpa using this)
  have C1 := Lib.hid (show ((w.alloc (.cells #[.slice A n c] 56)).alloc (.cells #[.int .i64 0, .int .i64 0] 45)).cell? ⟨w.heap.size, 0, none⟩ = some (.slice A n c) by rw [cell_of_block K1.out]; rfl)
  have HS := Lib.hid (l02Ok_calls (C := c) (o := 0) A w.heap.size n ns ps ((w.alloc (.cells #[.slice A n c] 56)).alloc (.cells #[.int .i64 0, .int .i64 0] 45)) hcap hsm (by simp; omega) C1.out (hp.kept B0.out))
  rw [hv] at HS
  have HPW := Lib.hid (fun (V : World) (hV : Below w.heap.size w V) => hp.kept hV)
  clear hp hv HPW hsm
  go_enter Try.func38, Try.ntmps38
  go_wp2_with fail
  refine HS.out.mono ?_
  rintro e w1 ⟨rfl, hb1⟩
  have B1 := Lib.hid (B0.out.trans (hb1.mono B0.out.size))
  have L1 := Lib.hid ((hb1.block _ (block_size K1.out)).trans K1.out)
  have L2 := Lib.hid ((hb1.block _ (block_size K2.out)).trans K2.out)
  clear hb1 HS B0 K1 K2 C1
  have r0 : w1.cell? ⟨w.heap.size + 1, 0, none⟩ = some (.int .i64 0) := by rw [cell_of_block L2.out]; rfl
  have r1 : w1.cell? ⟨w.heap.size + 1, 1, none⟩ = some (.int .i64 0) := by rw [cell_of_block L2.out]; rfl
  have rf := unfrozen_of_block L2.out
  have rz : w.heap.size + 1 < w1.heap.size := block_size L2.out
  go_wp2
  exact bodyPost_ret (v := .tuple #[.agg #[.int .i64 (0), .int .i64 (0)], .int .i64 1]) (by simp [results, Try.results38, go_sem, r0, r1]) rfl ⟨rfl, (B1.out.setCell (show w.heap.size ≤ w.heap.size + 1 by omega) _).setCell (show w.heap.size ≤ w.heap.size + 1 by omega) _⟩
set_option maxRecDepth 100000 in
set_option maxHeartbeats 4000000 in
theorem spec_zero {c : Nat} (A : Option Addr) (n : Nat) (ns : Nat → Nat) (ps : Nat → Nat → P3) (w : World) (hcap : n ≤ 1048576) (hsm : ∀ i, i < n → ns i ≤ 1048576) (hp : InkAt w A n ns ps) (hv : vI n ns ps = true) (h0 : n = 0) :
    Calls Try.prog 38 #[.agg #[.slice A n c]] w fun e w' => e = .returned (.tuple #[.agg #[.int .i64 0, .int .i64 0], .int .i64 6]) ∧ Below w.heap.size w w' := by
  subst h0
  have B0 := Lib.hid (below_alloc2 w (.cells #[.slice A 0 c] 56) (.cells #[.int .i64 0, .int .i64 0] 45))
  have K1 := Lib.hid (show ((w.alloc (.cells #[.slice A 0 c] 56)).alloc (.cells #[.int .i64 0, .int .i64 0] 45)).heap[w.heap.size]? = some (.cells #[.slice A 0 c] 56 (0, 0)) by rw [Below.heap_alloc _ _ _ (by simp)]; exact heap_alloc_new _ _)
  have K2 := Lib.hid (show ((w.alloc (.cells #[.slice A 0 c] 56)).alloc (.cells #[.int .i64 0, .int .i64 0] 45)).heap[w.heap.size + 1]? = some (.cells #[.int .i64 0, .int .i64 0] 45 (0, 0)) by have := heap_alloc_new (w.alloc (.cells #[.slice A 0 c] 56)) (.cells #[.int .i64 0, .int .i64 0] 45); simpa using this)
  have C1 := Lib.hid (show ((w.alloc (.cells #[.slice A 0 c] 56)).alloc (.cells #[.int .i64 0, .int .i64 0] 45)).cell? ⟨w.heap.size, 0, none⟩ = some (.slice A 0 c) by rw [cell_of_block K1.out]; rfl)
  have HS := Lib.hid (l02Ok_calls (C := c) (o := 0) A w.heap.size 0 ns ps ((w.alloc (.cells #[.slice A 0 c] 56)).alloc (.cells #[.int .i64 0, .int .i64 0] 45)) hcap hsm (by simp; omega) C1.out (hp.kept B0.out))
  rw [hv] at HS
  have HPW := Lib.hid (fun (V : World) (hV : Below w.heap.size w V) => hp.kept hV)
  clear hp hv HPW hsm
  go_enter Try.func38, Try.ntmps38
  go_wp2_with fail
  refine HS.out.mono ?_
  rintro e w1 ⟨rfl, hb1⟩
  have B1 := Lib.hid (B0.out.trans (hb1.mono B0.out.size))
  have L1 := Lib.hid ((hb1.block _ (block_size K1.out)).trans K1.out)
  have L2 := Lib.hid ((hb1.block _ (block_size K2.out)).trans K2.out)
  clear hb1 HS B0 K1 K2 C1
  have r0 : w1.cell? ⟨w.heap.size + 1, 0, none⟩ = some (.int .i64 0) := by rw [cell_of_block L2.out]; rfl
  have r1 : w1.cell? ⟨w.heap.size + 1, 1, none⟩ = some (.int .i64 0) := by rw [cell_of_block L2.out]; rfl
  have rf := unfrozen_of_block L2.out
  have rz : w.heap.size + 1 < w1.heap.size := block_size L2.out
  have c1 : w1.cell? ⟨w.heap.size, 0, none⟩ = some (.slice A 0 c) := by rw [cell_of_block L1.out]; rfl
  go_wp2
  exact bodyPost_ret (v := .tuple #[.agg #[.int .i64 (0), .int .i64 (0)], .int .i64 6]) (by simp [results, Try.results38, go_sem, r0, r1]) rfl ⟨rfl, (B1.out.setCell (show w.heap.size ≤ w.heap.size + 1 by omega) _).setCell (show w.heap.size ≤ w.heap.size + 1 by omega) _⟩
set_option maxRecDepth 100000 in
set_option maxHeartbeats 4000000 in
theorem impl_no {c : Nat} (A : Option Addr) (n : Nat) (ns : Nat → Nat) (ps : Nat → Nat → P3) (w : World) (hcap : n ≤ 1048576) (hsm : ∀ i, i < n → ns i ≤ 1048576) (hp : InkAt w A n ns ps) (hv : vI n ns ps = false) :
    Calls Try.prog 40 #[.agg #[.slice A n c]] w fun e w' => e = .returned (.tuple #[.agg #[.int .i64 0, .int .i64 0], .int .i64 1]) ∧ Below w.heap.size w w' := by
  have B0 := Lib.hid (below_alloc2 w (.cells #[.slice A n c] 56) (.cells #[.int .i64 0, .int .i64 0] 45))
  have K1 := Lib.hid (show ((w.alloc (.cells #[.slice A n c] 56)).alloc (.cells #[.int .i64 0, .int .i64 0] 45)).heap[w.heap.size]? = some (.cells #[.slice A n c] 56 (0, 0)) by rw [Below.heap_alloc _ _ _ (by simp)]; exact heap_alloc_new _ _)
  have K2 := Lib.hid (show ((w.alloc (.cells #[.slice A n c] 56)).alloc (.cells #[.int .i64 0, .int .i64 0] 45)).heap[w.heap.size + 1]? = some (.cells #[.int .i64 0, .int .i64 0] 45 (0, 0)) by have := heap_alloc_new (w.alloc (.cells #[.slice A n c] 56)) (.cells #[.int .i64 0, .int .i64 0] 45); simpa using this)
  have C1 := Lib.hid (show ((w.alloc (.cells #[.slice A n c] 56)).alloc (.cells #[.int .i64 0, .int .i64 0] 45)).cell? ⟨w.heap.size, 0, none⟩ = some (.slice A n c) by rw [cell_of_block K1.out]; rfl)
  have HS := Lib.hid (implValidInk_calls (C := c) A n ns ps ((w.alloc (.cells #[.slice A n c] 56)).alloc (.cells #[.int .i64 0, .int .i64 0] 45)) hcap hsm (hp.kept B0.out))
  rw [hv] at HS
  have HPW := Lib.hid (fun (V : World) (hV : Below w.heap.size w V) => hp.kept hV)
  clear hp hv HPW hsm
  go_enter Try.func40, Try.ntmps40
  go_wp2_with fail
  refine HS.out.mono ?_
  rintro e w1 ⟨rfl, hb1⟩
  have B1 := Lib.hid (B0.out.trans (hb1.mono B0.out.size))
  have L1 := Lib.hid ((hb1.block _ (block_size K1.out)).trans K1.out)
  have L2 := Lib.hid ((hb1.block _ (block_size K2.out)).trans K2.out)
  clear hb1 HS B0 K1 K2 C1
  have r0 : w1.cell? ⟨w.heap.size + 1, 0, none⟩ = some (.int .i64 0) := by rw [cell_of_block L2.out]; rfl
  have r1 : w1.cell? ⟨w.heap.size + 1, 1, none⟩ = some (.int .i64 0) := by rw [cell_of_block L2.out]; rfl
  have rf := unfrozen_of_block L2.out
  have rz : w.heap.size + 1 < w1.heap.size := block_size L2.out
  go_wp2
  exact bodyPost_ret (v := .tuple #[.agg #[.int .i64 (0), .int .i64 (0)], .int .i64 1]) (by simp [results, Try.results40, go_sem, r0, r1]) rfl ⟨rfl, (B1.out.setCell (show w.heap.size ≤ w.heap.size + 1 by omega) _).setCell (show w.heap.size ≤ w.heap.size + 1 by omega) _⟩
set_option maxRecDepth 100000 in
set_option maxHeartbeats 4000000 in
theorem impl_zero {c : Nat} (A : Option Addr) (n : Nat) (ns : Nat → Nat) (ps : Nat → Nat → P3) (w : World) (hcap : n ≤ 1048576) (hsm : ∀ i, i < n → ns i ≤ 1048576) (hp : InkAt w A n ns ps) (hv : vI n ns ps = true) (h0 : n = 0) :
    Calls Try.prog 40 #[.agg #[.slice A n c]] w fun e w' => e = .returned (.tuple #[.agg #[.int .i64 0, .int .i64 0], .int .i64 6]) ∧ Below w.heap.size w w' := by
  subst h0
  have B0 := Lib.hid (below_alloc2 w (.cells #[.slice A 0 c] 56) (.cells #[.int .i64 0, .int .i64 0] 45))
  have K1 := Lib.hid (show ((w.alloc (.cells #[.slice A 0 c] 56)).alloc (.cells #[.int .i64 0, .int .i64 0] 45)).heap[w.heap.size]? = some (.cells #[.slice A 0 c] 56 (0, 0)) by rw [Below.heap_alloc _ _ _ (by simp)]; exact heap_alloc_new _ _)
  have K2 := Lib.hid (show ((w.alloc (.cells #[.slice A 0 c] 56)).alloc (.cells #[.int .i64 0, .int .i64 0] 45)).heap[w.heap.size + 1]? = some (.cells #[.int .i64 0, .int .i64 0] 45 (0, 0)) by have := heap_alloc_new (w.alloc (.cells #[.slice A 0 c] 56)) (.cells #[.int .i64 0, .int .i64 0] 45); simpa using this)
  have C1 := Lib.hid (show ((w.alloc (.cells #[.slice A 0 c] 56)).alloc (.cells #[.int .i64 0, .int .i64 0] 45)).cell? ⟨w.heap.size, 0, none⟩ = some (.slice A 0 c) by rw [cell_of_block K1.out]; rfl)
  have HS := Lib.hid (implValidInk_calls (C := c) A 0 ns ps ((w.alloc (.cells #[.slice A 0 c] 56)).alloc (.cells #[.int .i64 0, .int .i64 0] 45)) hcap hsm (hp.kept B0.out))
  rw [hv] at HS
  have HPW := Lib.hid (fun (V : World) (hV : Below w.heap.size w V) => hp.kept hV)
  clear hp hv HPW hsm
  go_enter Try.func40, Try.ntmps40
  go_wp2_with fail
  refine HS.out.mono ?_
  rintro e w1 ⟨rfl, hb1⟩
  have B1 := Lib.hid (B0.out.trans (hb1.mono B0.out.size))
  have L1 := Lib.hid ((hb1.block _ (block_size K1.out)).trans K1.out)
  have L2 := Lib.hid ((hb1.block _ (block_size K2.out)).trans K2.out)
  clear hb1 HS B0 K1 K2 C1
  have r0 : w1.cell? ⟨w.heap.size + 1, 0, none⟩ = some (.int .i64 0) := by rw [cell_of_block L2.out]; rfl
  have r1 : w1.cell? ⟨w.heap.size + 1, 1, none⟩ = some (.int .i64 0) := by rw [cell_of_block L2.out]; rfl
  have rf := unfrozen_of_block L2.out
  have rz : w.heap.size + 1 < w1.heap.size := block_size L2.out
  have c1 : w1.cell? ⟨w.heap.size, 0, none⟩ = some (.slice A 0 c) := by rw [cell_of_block L1.out]; rfl
  go_wp2
  exact bodyPost_ret (v := .tuple #[.agg #[.int .i64 (0), .int .i64 (0)], .int .i64 6]) (by simp [results, Try.results40, go_sem, r0, r1]) rfl ⟨rfl, (B1.out.setCell (show w.heap.size ≤ w.heap.size + 1 by omega) _).setCell (show w.heap.size ≤ w.heap.size + 1 by omega) _⟩
set_option maxRecDepth 100000 in
set_option maxHeartbeats 4000000 in
theorem spec_yes {c : Nat} (A : Option Addr) (n : Nat) (ns : Nat → Nat) (ps : Nat → Nat → P3) (w : World) (hcap : n ≤ 1048576) (hsm : ∀ i, i < n → ns i ≤ 1048576) (hp : InkAt w A n ns ps) (hv : vI n ns ps = true) (h0 : ¬ n = 0) :
    Calls Try.prog 38 #[.agg #[.slice A n c]] w fun e w' => e = .returned (.tuple #[.agg #[.int .i64 (nr (cx (fp n ns ps) (sumTo ns n)) (sumTo ns n : Nat)), .int .i64 (nr (cy (fp n ns ps) (sumTo ns n)) (sumTo ns n : Nat))], .int .i64 0]) ∧ Below w.heap.size w w' := by
  have B0 := Lib.hid (below_alloc2 w (.cells #[.slice A n c] 56) (.cells #[.int .i64 0, .int .i64 0] 45))
  have K1 := Lib.hid (show ((w.alloc (.cells #[.slice A n c] 56)).alloc (.cells #[.int .i64 0, .int .i64 0] 45)).heap[w.heap.size]? = some (.cells #[.slice A n c] 56 (0, 0)) by rw [Below.heap_alloc _ _ _ (by simp)]; exact heap_alloc_new _ _)
  have K2 := Lib.hid (show ((w.alloc (.cells #[.slice A n c] 56)).alloc (.cells #[.int .i64 0, .int .i64 0] 45)).heap[w.heap.size + 1]? = some (.cells #[.int .i64 0, .int .i64 0] 45 (0, 0)) by have := heap_alloc_new (w.alloc (.cells #[.slice A n c] 56)) (.cells #[.int .i64 0, .int .i64 0] 45); simpa using this)
  have C1 := Lib.hid (show ((w.alloc (.cells #[.slice A n c] 56)).alloc (.cells #[.int .i64 0, .int .i64 0] 45)).cell? ⟨w.heap.size, 0, none⟩ = some (.slice A n c) by rw [cell_of_block K1.out]; rfl)
  have HS := Lib.hid (l02Ok_calls (C := c) (o := 0) A w.heap.size n ns ps ((w.alloc (.cells #[.slice A n c] 56)).alloc (.cells #[.int .i64 0, .int .i64 0] 45)) hcap hsm (by simp; omega) C1.out (hp.kept B0.out))
  rw [hv] at HS
  have HPW := Lib.hid (fun (V : World) (hV : Below w.heap.size w V) => hp.kept hV)
  have h16 := (vI_of hv).1
  have H1 := Lib.hid (fun i (hi : i < n) => (vS_of ((vI_of hv).2 i hi).1).1)
  have H60 := Lib.hid (fun i (hi : i < n) => (vS_of ((vI_of hv).2 i hi).1).2.1)
  have HLE := Lib.hid (fun i (hi : i ≤ n) => sum_le (n := i) fun j hj => H60.out j (by omega))
  have HC := Lib.hid (c_le (fp_rg hv))
  have HRG := Lib.hid (fp_rg hv)
  have HFP := Lib.hid (fun i k (hi : i < n) (hk : k < ns i) => fp_at (ps := ps) hi hk)
  have HMO := Lib.hid (fun i (hi : i ≤ n) => sumTo_mono ns hi)
  have HPOS := Lib.hid (sum_pos (ns := ns) (by omega) H1.out)
  obtain ⟨f, hf⟩ : ∃ f, fp n ns ps = f := ⟨_, rfl⟩
  rw [hf] at HC HRG HFP ⊢
  clear hp hv hsm hf
  go_enter Try.func38, Try.ntmps38
  go_wp2_with fail
  refine HS.out.mono ?_
  rintro e w1 ⟨rfl, hb1⟩
  have B1 := Lib.hid (B0.out.trans (hb1.mono B0.out.size))
  have L1 := Lib.hid ((hb1.block _ (block_size K1.out)).trans K1.out)
  have L2 := Lib.hid ((hb1.block _ (block_size K2.out)).trans K2.out)
  clear hb1 HS B0 K1 K2 C1
  have c1 : w1.cell? ⟨w.heap.size, 0, none⟩ = some (.slice A n c) := by rw [cell_of_block L1.out]; rfl
  have z1 := block_size L1.out
  have HIN := Lib.hid (HPW.out w1 B1.out)
  have hn0 : ((n : Int) == 0) = false := by simp; omega
  go_wp2
  go_loopw [4, 5, 6] (fun u v i w' => ∃ k : Nat, k ≤ n ∧ i = .int .i64 (k : Int) ∧ u = .int .i64 (cx f (sumTo ns k)) ∧ v = .int .i64 (cy f (sumTo ns k)) ∧ w1 = w') (fun _ _ i _ => n - (intOf i).toNat)
  case atStart => exact ⟨0, Nat.zero_le _, rfl, rfl, rfl, rfl⟩
  case round =>
    obtain ⟨i, hi, rfl, rfl, rfl, rfl⟩ := hrel
    by_cases hlt : i < n
    · obtain ⟨G, o1, rfl, hg, B, cc, p0, hpt⟩ := HIN.out i hlt
      have hli : (i : Int) < (n : Int) := by omega
      have HPT := Lib.hid hpt
      have HSn := Lib.hid (show sumTo ns (i + 1) = sumTo ns i + ns i from rfl)
      have HFI := Lib.hid (fun k hk => HFP.out i k hlt hk)
      have hle := HLE.out i hi
      have hle2 := H60.out i hlt
      have HSM := Lib.hid (HMO.out (i + 1) hlt)
      clear hpt
      obtain ⟨m, hm⟩ : ∃ m, ns i = m := ⟨_, rfl⟩
      obtain ⟨S, hS⟩ : ∃ S, sumTo ns i = S := ⟨_, rfl⟩
      obtain ⟨pts, hpts⟩ : ∃ q, ps i = q := ⟨_, rfl⟩
      rw [hm] at p0 HPT HSn HFI hle2
      rw [hS] at HSn HFI hle ⊢
      rw [hpts] at HPT HFI
      rw [HSn.out] at HSM
      clear hm hS hpts
      have hS960 : S + m ≤ 960 := by omega
      go_wp2
      clear p0
      go_loopw [4, 5, 8] (fun u v i w' => ∃ k : Nat, k ≤ m ∧ i = .int .i64 (k : Int) ∧ u = .int .i64 (cx f (S + k)) ∧ v = .int .i64 (cy f (S + k)) ∧ w1 = w') (fun _ _ i _ => m - (intOf i).toNat)
      case atStart => exact ⟨0, Nat.zero_le _, rfl, rfl, rfl, rfl⟩
      case round =>
        obtain ⟨k, hk, rfl, rfl, rfl, rfl⟩ := hrel
        by_cases hlt2 : k < m
        · obtain ⟨g, o', rfl, hgz, p0, p1, -⟩ := HPT.out k hlt2
          have hcm := HC.out (S + k) (by have := HSM.out; omega)
          have hrg := HRG.out (S + k) (by have := HSM.out; omega)
          have HX := Lib.hid (show cx f (S + (k + 1)) = cx f (S + k) + (f (S + k)).1 from rfl)
          have HY := Lib.hid (show cy f (S + (k + 1)) = cy f (S + k) + (f (S + k)).2.1 from rfl)
          have hki : (k : Int) < (m : Int) := by omega
          rw [HFI.out k hlt2] at hrg HX HY
          obtain ⟨p, hpk⟩ : ∃ p, pts k = p := ⟨_, rfl⟩
          rw [hpk] at p0 p1 hrg HX HY
          generalize cx f (S + k) = sx at *
          generalize cy f (S + k) = sy at *
          unfold Rg at hrg
          clear hpk
          go_wp2
          go_roundw
          case rel => exact ⟨k + 1, by omega, by go_num, by rw [HX.out], by rw [HY.out], trivial⟩
          case measure => simp [intOf]; omega
        · obtain rfl : k = m := by omega
          go_wp2
          go_roundw
          case rel => exact ⟨i + 1, by omega, by go_num, by rw [HSn.out], by rw [HSn.out], trivial⟩
          case measure => simp [intOf]; omega
    · obtain rfl : i = n := by omega
      have HCT := Lib.hid (count_calls (C := c) (o := 0) A w.heap.size i ns ps w1 h16 H60.out z1 c1 HIN.out)
      have hcm := HC.out (sumTo ns i) (Nat.le_refl _)
      have hle := HLE.out i (Nat.le_refl _)
      have hpos := HPOS.out
      obtain ⟨M, hM⟩ : ∃ M, sumTo ns i = M := ⟨_, rfl⟩
      have HMM := Lib.hid hM
      rw [hM] at HCT hcm hle hpos ⊢
      obtain ⟨sx, hsx⟩ : ∃ x, cx f M = x := ⟨_, rfl⟩
      obtain ⟨sy, hsy⟩ : ∃ x, cy f M = x := ⟨_, rfl⟩
      have HSX := Lib.hid hsx
      have HSY := Lib.hid hsy
      rw [hsx, hsy] at hcm ⊢
      clear hM hsx hsy
      have HNX := Lib.hid (fun W => specNear sx (M : Int) (by omega) (by omega) (by omega) (by omega) W)
      have HNY := Lib.hid (fun W => specNear sy (M : Int) (by omega) (by omega) (by omega) (by omega) W)
      have r0 : w1.cell? ⟨w.heap.size + 1, 0, none⟩ = some (.int .i64 0) := by rw [cell_of_block L2.out]; rfl
      have r1 : w1.cell? ⟨w.heap.size + 1, 1, none⟩ = some (.int .i64 0) := by rw [cell_of_block L2.out]; rfl
      have rf := unfrozen_of_block L2.out
      have rz : w.heap.size + 1 < w1.heap.size := block_size L2.out
      go_wp2_with fail
      refine HCT.out.mono ?_
      rintro e w2 ⟨rfl, rfl⟩
      go_wp2_with fail
      refine (HNX.out _).mono ?_
      rintro e w2 ⟨rfl, rfl⟩
      go_wp2_with fail
      refine (HNY.out _).mono ?_
      rintro e w2 ⟨rfl, rfl⟩
      go_wp2
      exact bodyPost_ret (v := .tuple #[.agg #[.int .i64 (nr sx (M : Int)), .int .i64 (nr sy (M : Int))], .int .i64 0]) (by simp [results, Try.results38, go_sem, r0, r1]) rfl ⟨by rw [HMM.out, HSX.out, HSY.out], (B1.out.setCell (show w.heap.size ≤ w.heap.size + 1 by omega) _).setCell (show w.heap.size ≤ w.heap.size + 1 by omega) _⟩
/-- The places of points. -/
def plc (f : Nat → P3) (i : Nat) : Int × Int := ((f i).1, (f i).2.1)
theorem mx_eq (f : Nat → P3) : ∀ m, mx (plc f) m = cx f m
  | 0 => rfl
  | m + 1 => by rw [mx, cx, mx_eq f m]; rfl
theorem my_eq (f : Nat → P3) : ∀ m, my (plc f) m = cy f m
  | 0 => rfl
  | m + 1 => by rw [my, cy, my_eq f m]; rfl
theorem infoSpotC : (Try.prog.info? 45).map (fun i => (i.zero, i.size, i.bytes)) = some (some (.agg #[.int .i64 0, .int .i64 0]), 2, 16) := by kernel_rfl
theorem spotP_calls (x y t : Int) (w : World) : Calls Try.prog 64 #[pt x y t] w fun e w' => e = .returned (.agg #[.int .i64 x, .int .i64 y]) ∧ Below w.heap.size w w' := by
  go_enter Try.func64, Try.ntmps64
  go_wp2
  exact bodyPost_ret (v := .agg #[.int .i64 x, .int .i64 y]) (by simp [results, Try.results64, go_sem]) rfl ⟨rfl, below_alloc2 _ _ _⟩
set_option maxRecDepth 100000 in
set_option maxHeartbeats 4000000 in
theorem impl_yes {c : Nat} (A : Option Addr) (n : Nat) (ns : Nat → Nat) (ps : Nat → Nat → P3) (w : World) (hcap : n ≤ 1048576) (hsm : ∀ i, i < n → ns i ≤ 1048576) (hp : InkAt w A n ns ps) (hv : vI n ns ps = true) (h0 : ¬ n = 0) :
    Calls Try.prog 40 #[.agg #[.slice A n c]] w fun e w' => e = .returned (.tuple #[.agg #[.int .i64 (nr (cx (fp n ns ps) (sumTo ns n)) (sumTo ns n : Nat)), .int .i64 (nr (cy (fp n ns ps) (sumTo ns n)) (sumTo ns n : Nat))], .int .i64 0]) ∧ Below w.heap.size w w' := by
  have B0 := Lib.hid (below_alloc2 w (.cells #[.slice A n c] 56) (.cells #[.int .i64 0, .int .i64 0] 45))
  have K1 := Lib.hid (show ((w.alloc (.cells #[.slice A n c] 56)).alloc (.cells #[.int .i64 0, .int .i64 0] 45)).heap[w.heap.size]? = some (.cells #[.slice A n c] 56 (0, 0)) by rw [Below.heap_alloc _ _ _ (by simp)]; exact heap_alloc_new _ _)
  have K2 := Lib.hid (show ((w.alloc (.cells #[.slice A n c] 56)).alloc (.cells #[.int .i64 0, .int .i64 0] 45)).heap[w.heap.size + 1]? = some (.cells #[.int .i64 0, .int .i64 0] 45 (0, 0)) by have := heap_alloc_new (w.alloc (.cells #[.slice A n c] 56)) (.cells #[.int .i64 0, .int .i64 0] 45); simpa using this)
  have C1 := Lib.hid (show ((w.alloc (.cells #[.slice A n c] 56)).alloc (.cells #[.int .i64 0, .int .i64 0] 45)).cell? ⟨w.heap.size, 0, none⟩ = some (.slice A n c) by rw [cell_of_block K1.out]; rfl)
  have HS := Lib.hid (implValidInk_calls (C := c) A n ns ps ((w.alloc (.cells #[.slice A n c] 56)).alloc (.cells #[.int .i64 0, .int .i64 0] 45)) hcap hsm (hp.kept B0.out))
  rw [hv] at HS
  have HPW := Lib.hid (fun (V : World) (hV : Below w.heap.size w V) => hp.kept hV)
  have h16 := (vI_of hv).1
  have H1 := Lib.hid (fun i (hi : i < n) => (vS_of ((vI_of hv).2 i hi).1).1)
  have H60 := Lib.hid (fun i (hi : i < n) => (vS_of ((vI_of hv).2 i hi).1).2.1)
  have HLE := Lib.hid (fun i (hi : i ≤ n) => sum_le (n := i) fun j hj => H60.out j (by omega))
  have HC := Lib.hid (c_le (fp_rg hv))
  have HRG := Lib.hid (fp_rg hv)
  have HFP := Lib.hid (fun i k (hi : i < n) (hk : k < ns i) => fp_at (ps := ps) hi hk)
  have HMO := Lib.hid (fun i (hi : i ≤ n) => sumTo_mono ns hi)
  have HPOS := Lib.hid (sum_pos (ns := ns) (by omega) H1.out)
  obtain ⟨ad, had⟩ := InkAt.ad hp H1.out
  have HAD := Lib.hid had
  obtain ⟨f, hf⟩ : ∃ f, fp n ns ps = f := ⟨_, rfl⟩
  have HF := Lib.hid hf
  rw [hf] at HC HRG HFP ⊢
  clear hp hv hsm hf had
  go_enter Try.func40, Try.ntmps40
  go_wp2_with fail
  refine HS.out.mono ?_
  rintro e w1 ⟨rfl, hb1⟩
  have B1 := Lib.hid (B0.out.trans (hb1.mono B0.out.size))
  have L1 := Lib.hid ((hb1.block _ (block_size K1.out)).trans K1.out)
  have L2 := Lib.hid ((hb1.block _ (block_size K2.out)).trans K2.out)
  clear hb1 HS B0 K1 K2 C1
  have c1 : w1.cell? ⟨w.heap.size, 0, none⟩ = some (.slice A n c) := by rw [cell_of_block L1.out]; rfl
  have z1 := block_size L1.out
  have hn0 : ((n : Int) == 0) = false := by simp; omega
  have HPC := Lib.hid (points_calls (c := c) A n ns ps ad w1 h16 H60.out (HAD.out.kept B1.out))
  go_wp2_with fail
  refine HPC.out.mono ?_
  rintro e w2 ⟨D, d0, rfl, hown, hb⟩
  have HB3 := Lib.hid (B1.out.trans (hb.mono B1.out.size))
  have N2 := Lib.hid ((hb.block _ (block_size L2.out)).trans L2.out)
  have HO := Lib.hid hown
  have HLM := HLE.out n (Nat.le_refl _)
  have hpos := HPOS.out
  have HLO := Lib.hid (fun m hm => loc_of ns n m hm)
  have HFPM := Lib.hid (show ∀ m, f m = ps (loc ns n m).1 (loc ns n m).2 from fun m => by rw [← HF.out]; rfl)
  have HPM := Lib.hid (show ∀ m, ptr n ns ad m = .pointer (some ⟨(ad (loc ns n m).1).1, (ad (loc ns n m).1).2 + (loc ns n m).2 * 3, none⟩) from fun m => rfl)
  obtain ⟨M, hM⟩ : ∃ M, sumTo ns n = M := ⟨_, rfl⟩
  have HMM := Lib.hid hM
  rw [hM] at HO HLM hpos HLO HC HRG ⊢
  clear hM
  clear hown hb HPC c1 z1
  have hM960 : M ≤ 960 := by omega
  obtain ⟨g, rfl⟩ : ∃ g, D = some ⟨g, 0, none⟩ := by
    obtain ⟨_, h⟩ := HO.out
    rcases h with ⟨_, h⟩ | ⟨g, cap, cur, h, _⟩
    · omega
    · injection h with h _ _; exact ⟨g, h⟩
  obtain ⟨i0, hi0, hz0, hz1, hz2⟩ := rown.info_get infoSpotC
  go_wp2
  go_loopw [4, 19] (fun o i w' => ∃ (k d : Nat) (B : Option Addr), k ≤ M ∧ i = .int .i64 (k : Int) ∧ o = .slice B k d ∧ Hid (w'.ownsRow w2.heap.size 45 2 (.slice B k d) k (rws (ft.sp2 (plc f)) k)) ∧ Hid (Below w2.heap.size w2 w')) (fun _ i _ => M - (intOf i).toNat)
  case atStart => exact ⟨0, 0, none, Nat.zero_le _, rfl, rfl, Lib.hid (World.ownsRow_nil _ _ _ _), Lib.hid (Below.refl _ _)⟩
  case round =>
    obtain ⟨k, d, B, hk, rfl, rfl, HOW, HB⟩ := hrel
    by_cases hlt : k < M
    · obtain ⟨hl1, hl2, -⟩ := HLO.out k hlt
      have HOP := rown.ownsRow_kept HO.out HB.out
      have hc0 := row_cell HOP (prow_len n ns ad) hlt (show 0 < 1 by omega) rfl
      rw [Nat.mul_one, Nat.add_zero, HPM.out k] at hc0
      have hgz := rown.row_lt HOP
      have HBW := Lib.hid (HB3.out.trans (HB.out.mono HB3.out.size))
      obtain ⟨-, -, -, -, -, -, hpt⟩ := (HAD.out.kept HBW.out) _ hl1
      obtain ⟨g2, o2, e2, hgz2, p0, p1, p2⟩ := hpt _ hl2
      injection e2 with e2
      injection e2 with e2 e3
      subst e2 e3
      have HE := Lib.hid (show rws (ft.sp2 (plc f)) (k + 1) = rws (ft.sp2 (plc f)) k ++ [.int .i64 (f k).1, .int .i64 (f k).2.1] from rfl)
      rw [HFPM.out k] at HE
      obtain ⟨p, hpk⟩ : ∃ p, ps (loc ns n k).1 (loc ns n k).2 = p := ⟨_, rfl⟩
      rw [hpk] at p0 p1 p2 HE
      generalize (ad (loc ns n k).1).1 = ga at *
      generalize (ad (loc ns n k).1).2 + (loc ns n k).2 * 3 = oa at *
      have hki : (k : Int) < (M : Int) := by omega
      clear hpk hl1 hl2 hpt
      go_wp2_with (first
        | (go_at_call 64; (with_reducible refine (spotP_calls _ _ _ _).mono ?_); rintro e w3 ⟨rfl, hb⟩; have HK := Lib.hid hb; clear hb; have HB4 := Lib.hid (HB.out.trans (HK.out.mono HB.out.size)); have HO3 := Lib.hid (rown.ownsRow_kept HOW.out HK.out))
        | (at_builtin
           have z0 := rown.ownsRow_kept HO3.out (below_alloc1 w3 (.cells #[.int .i64 p.1, .int .i64 p.2.1] 45))
           have z2 : ∀ u ∈ [Value.int .i64 p.1, Value.int .i64 p.2.1], u.oneCell' = true := (by simp [Value.oneCell'])
           have z3 : k + 1 ≤ maxLen := (by simp only [maxLen]; omega)
           have z4 : (k + 1) * 16 ≤ 140737488355328 := (by omega)
           have z5 : w2.heap.size ≤ (w3.alloc (.cells #[.int .i64 p.1, .int .i64 p.2.1] 45)).heap.size := (Nat.le_trans HB4.out.size (by simp))
           refine wpList_append_lies (w3.alloc (.cells #[.int .i64 p.1, .int .i64 p.2.1] 45)) rfl _ _ 69 rfl w2.heap.size 45 i0 _ 2 16 Try.underlying69 hi0 hz0 hz1 hz2 rfl (by decide) (.slice B k d) k _ rfl z0 ⟨w3.heap.size, 0, none⟩ 1 1 [.int .i64 p.1, .int .i64 p.2.1] rfl rfl (ft.two_new rfl) z2 (by decide) z3 z4 z5 _ rfl ?_
           intro g3 cap3 w5 hown hgr hat hlt3
           have HO4 := Lib.hid hown
           have HB5 := Lib.hid (HB4.out.trans (rown.under HO3.out HB4.out.size hgr))
           clear hown hgr hat z0 z2 z3 z4 z5))
      go_roundw
      case rel => exact ⟨k + 1, cap3, some ⟨g3, 0, none⟩, by omega, by go_num, rfl, Lib.hid (by rw [HE.out]; exact HO4.out), HB5⟩
      case measure => simp [intOf]; omega
    · obtain rfl : k = M := by omega
      have HMC := Lib.hid (mid_calls (c := d) B k (plc f) wr (by omega) (by omega) (ft.sp_row HOW.out) (fun i hi => HRG.out i hi))
      have HBW := Lib.hid (HB3.out.trans (HB.out.mono HB3.out.size))
      have N3 := Lib.hid ((HB.out.block _ (block_size N2.out)).trans N2.out)
      go_wp2_with fail
      refine HMC.out.mono ?_
      rintro e w3 ⟨rfl, hb⟩
      have BE := Lib.hid (HBW.out.trans (hb.mono HBW.out.size))
      have M0 := Lib.hid ((hb.block _ (block_size N3.out)).trans N3.out)
      clear hb
      have r0 : w3.cell? ⟨w.heap.size + 1, 0, none⟩ = some (.int .i64 0) := by rw [cell_of_block M0.out]; rfl
      have r1 : w3.cell? ⟨w.heap.size + 1, 1, none⟩ = some (.int .i64 0) := by rw [cell_of_block M0.out]; rfl
      have rf := unfrozen_of_block M0.out
      have rz : w.heap.size + 1 < w3.heap.size := block_size M0.out
      obtain ⟨a, ha⟩ : ∃ a, nr (mx (plc f) k) (k : Int) = a := ⟨_, rfl⟩
      obtain ⟨b, hb⟩ : ∃ a, nr (my (plc f) k) (k : Int) = a := ⟨_, rfl⟩
      have HA := Lib.hid (show nr (cx f k) (k : Int) = a by rw [← ha, mx_eq])
      have HB9 := Lib.hid (show nr (cy f k) (k : Int) = b by rw [← hb, my_eq])
      rw [ha, hb]
      clear ha hb
      go_wp2
      exact bodyPost_ret (v := .tuple #[.agg #[.int .i64 a, .int .i64 b], .int .i64 0]) (by simp [results, Try.results40, go_sem, r0, r1]) rfl ⟨by rw [HMM.out, HA.out, HB9.out], (BE.out.setCell (show w.heap.size ≤ w.heap.size + 1 by omega) _).setCell (show w.heap.size ≤ w.heap.size + 1 by omega) _⟩
theorem fin2 {K : FuncId} {args : Array Value} {W : World} {a b r1 : Int} (ha : inI64 a) (hb : inI64 b) (h : Calls Try.prog K args W fun e w' => e = .returned (.tuple #[.agg #[.int .i64 a, .int .i64 b], .int .i64 r1]) ∧ Below W.heap.size W w') :
    Calls Try.prog K args W fun e W' => ∃ xs : Nat → Value, e = .returned (.tuple #[.agg #[xs 0, xs 1], .int .i64 r1]) ∧ OwnRec W' 2 xs (fun j => if j = 0 then .int a else .int b) (iv W.heap.size W'.heap.size) ∧ Below W.heap.size W W' :=
  h.mono fun e w' ⟨he, hb'⟩ => ⟨fun j => if j = 0 then .int .i64 a else .int .i64 b, he, own_two ha hb, hb'⟩
theorem nr_in {x : Int} {M : Nat} (h0 : 0 ≤ x) (h1 : x ≤ M * 4095) (hM : 1 ≤ M) (hM2 : M ≤ 960) : inI64 (nr x (M : Int)) := by
  have := down_le (n := 2 * x + M) (d := 2 * (M : Int)) (B := 10000000) (by omega) (by omega) (by omega)
  unfold nr inI64
  omega
theorem ty2 (a b : Int) : tyrSpot (fun j => if j = 0 then .int a else .int b) := ⟨⟨_, rfl⟩, ⟨_, rfl⟩⟩
theorem cnt2 (a b : Int) : cntRec 2 (fun j => if j = 0 then Dat.int a else Dat.int b) ≤ 100000000000 := by simp [cntRec, sumTo, cntS, cnt]
theorem z64 : inI64 0 := by unfold inI64; omega
theorem meat (vs0 : Nat → Value) (g0 : Nat → Dat) (ht0 : tyrInk g0) :
    costRec 1 g0 ≤ 1048576 → ∃ (R : Nat → Dat) (r1 : Int), tyrSpot R ∧ cntRec 2 R ≤ 100000000000 ∧ (∀ (W : World) (us0 : Nat → Value), ReadsRec W 1 us0 g0 → Calls Try.prog 38 #[.agg #[us0 0]] W fun e W' => ∃ xs : Nat → Value, e = .returned (.tuple #[.agg #[xs 0, xs 1], .int .i64 r1]) ∧ OwnRec W' 2 xs R (iv W.heap.size W'.heap.size) ∧ Below W.heap.size W W') ∧ (∀ (W : World) (us0 : Nat → Value), ReadsRec W 1 us0 g0 → Calls Try.prog 40 #[.agg #[us0 0]] W fun e W' => ∃ xs : Nat → Value, e = .returned (.tuple #[.agg #[xs 0, xs 1], .int .i64 r1]) ∧ OwnRec W' 2 xs R (iv W.heap.size W'.heap.size) ∧ Below W.heap.size W W') := by
  intro hq
  cases hv : vI (inkN g0) (inkS g0) (inkP g0) with
  | true =>
    by_cases hd : inkN g0 = 0
    · exact ⟨_, _, ty2 _ _, cnt2 _ _, fun W us0 h0 => by
          obtain ⟨A, c, e, hn, hs, hp⟩ := reads_ink h0 ht0 hq
          rw [e]; exact fin2 (a := 0) (b := 0) z64 z64 (spec_zero A _ _ _ W hn hs hp hv hd), fun W us0 h0 => by
          obtain ⟨A, c, e, hn, hs, hp⟩ := reads_ink h0 ht0 hq
          rw [e]; exact fin2 (a := 0) (b := 0) z64 z64 (impl_zero A _ _ _ W hn hs hp hv hd)⟩
    · have H1 := fun i (hi : i < inkN g0) => (vS_of ((vI_of hv).2 i hi).1).1
      have H60 := fun i (hi : i < inkN g0) => (vS_of ((vI_of hv).2 i hi).1).2.1
      have hM := sum_pos (ns := inkS g0) (n := inkN g0) (by omega) H1
      have hM2 := sum_le (ns := inkS g0) (n := inkN g0) H60
      have h16 := (vI_of hv).1
      have hc := c_le (fp_rg hv) _ (Nat.le_refl _)
      have ia := nr_in hc.1.1 hc.1.2 hM (by omega)
      have ib := nr_in hc.2.1 hc.2.2 hM (by omega)
      exact ⟨_, _, ty2 _ _, cnt2 _ _, fun W us0 h0 => by
          obtain ⟨A, c, e, hn, hs, hp⟩ := reads_ink h0 ht0 hq
          rw [e]; exact fin2 (a := nr (cx (fp (inkN g0) (inkS g0) (inkP g0)) (sumTo (inkS g0) (inkN g0))) (sumTo (inkS g0) (inkN g0) : Nat)) (b := nr (cy (fp (inkN g0) (inkS g0) (inkP g0)) (sumTo (inkS g0) (inkN g0))) (sumTo (inkS g0) (inkN g0) : Nat)) ia ib (spec_yes A _ _ _ W hn hs hp hv hd), fun W us0 h0 => by
          obtain ⟨A, c, e, hn, hs, hp⟩ := reads_ink h0 ht0 hq
          rw [e]; exact fin2 (a := nr (cx (fp (inkN g0) (inkS g0) (inkP g0)) (sumTo (inkS g0) (inkN g0))) (sumTo (inkS g0) (inkN g0) : Nat)) (b := nr (cy (fp (inkN g0) (inkS g0) (inkP g0)) (sumTo (inkS g0) (inkN g0))) (sumTo (inkS g0) (inkN g0) : Nat)) ia ib (impl_yes A _ _ _ W hn hs hp hv hd)⟩
  | false =>
    exact ⟨_, _, ty2 _ _, cnt2 _ _, fun W us0 h0 => by
        obtain ⟨A, c, e, hn, hs, hp⟩ := reads_ink h0 ht0 hq
        rw [e]; exact fin2 (a := 0) (b := 0) z64 z64 (spec_no A _ _ _ W hn hs hp hv), fun W us0 h0 => by
        obtain ⟨A, c, e, hn, hs, hp⟩ := reads_ink h0 ht0 hq
        rw [e]; exact fin2 (a := 0) (b := 0) z64 z64 (impl_no A _ _ _ W hn hs hp hv)⟩
end Go.Proofs.Ytedboaeadkdhfaa.wCenterOf
