/-
  Proved: what the library's function that lays copies of a list one behind the other returns for a list of one number.
  Conditions: the number of copies is small.
-/
import Derived.Test.YtkcfghbkcgommaaDp
import Derived.Laws.Bits64b
import Derived.Laws.CopyOwn
import Derived.Deep.RegionLaw
namespace Go.Proofs.Ytkcfghbkcgommaa.dp
open Go.ChangeShapes Go.WideShapes Go.ChangeAt Go.RowKit Go.Joins
open Go.Proofs.Ytkcfghbkcgommaa.core Go.Proofs.Ytkcfghbkcgommaa.rown Go.Proofs.Ytkcfghbkcgommaa.stk Go.Proofs.Ytkcfghbkcgommaa.boxed Go.Proofs.Ytkcfghbkcgommaa.ft Go.Proofs.Ytkcfghbkcgommaa.seq Go.Proofs.Ytkcfghbkcgommaa.tab
set_option linter.unusedVariables false
set_option linter.unusedSimpArgs false
set_option maxRecDepth 100000 in
theorem mul64_one (y : Nat) (hy : y < 1000) (w : World) : Calls Try.prog 148 #[.int .u64 1, .int .u64 (y : Int)] w fun e w' => e = .returned (.tuple #[.int .u64 0, .int .u64 (y : Int)]) ∧ w = w' := by
  have f1 : bits .and .u64 1 4294967295 = 1 := by decide +kernel
  have f2 : bits .and .u64 (y : Int) 4294967295 = (y : Int) := by
    have h := bits_and_u64_nat y 4294967295 (by omega) (by omega)
    have e : y &&& 4294967295 = y % 4294967296 := Nat.and_two_pow_sub_one_eq_mod y 32
    rw [e, Nat.mod_eq_of_lt (by omega)] at h
    exact h
  have f3 : (y : Int) / 4294967296 = 0 := by omega
  have f4 : IntKind.u64.wrap (y : Int) = (y : Int) := by rw [IntKind.wrap_u64]; omega
  have f5 : bits .and .u64 0 4294967295 = 0 := by decide +kernel
  go_enter Try.func148, Try.ntmps148
  go_wp2
  go_ret2
  exact ⟨rfl, rfl⟩
set_option maxRecDepth 100000 in
theorem mul_one (y : Nat) (hy : y < 1000) (w : World) : Calls Try.prog 146 #[.int .u64 1, .int .u64 (y : Int)] w fun e w' => e = .returned (.tuple #[.int .u64 0, .int .u64 (y : Int)]) ∧ w = w' := by
  have HM := Lib.hid (fun W => mul64_one y hy W)
  clear hy
  go_enter Try.func146, Try.ntmps146
  go_wp2_with fail
  refine (HM.out _).mono ?_
  rintro e w1 ⟨rfl, rfl⟩
  go_wp2
  go_ret2
  exact ⟨rfl, rfl⟩
/-- A row of n numbers of which the first m are told. -/
def fill (v : Int) (n m : Nat) : List Value := List.replicate m (.int .i64 v) ++ List.replicate (n - m) (.int .i64 0)
theorem fill_len (v : Int) (n m : Nat) (h : m ≤ n) : (fill v n m).length = n := by simp [fill]; omega
theorem fill_more (v : Int) (n m d : Nat) (h : m + d ≤ n) : splice (fill v n m) m (List.replicate d (.int .i64 v)) = fill v n (m + d) := by
  unfold splice fill
  rw [List.length_replicate, List.take_append_of_le_length (by rw [List.length_replicate]; omega), List.take_of_length_le (by rw [List.length_replicate]; omega), List.drop_append, List.length_replicate, List.drop_eq_nil_of_le (by rw [List.length_replicate]; omega), List.nil_append, List.drop_replicate, ← List.append_assoc, List.replicate_append_replicate, show n - m - (m + d - m) = n - (m + d) by omega]
set_option maxRecDepth 100000 in
set_option maxHeartbeats 4000000 in
theorem repeat_calls (v : Int) (g0 : Nat) (n : Nat) (h1 : 1 ≤ n) (hn : n < 1000) (w : World) (ha : w.cell? ⟨g0, 0, none⟩ = some (.int .i64 v)) :
    Calls Try.prog 145 #[.slice (some ⟨g0, 0, none⟩) 1 1, .int .i64 (n : Int)] w fun e w' => e = .returned (.slice (some ⟨w.heap.size, 0, none⟩) n n) ∧ w'.ownsRow w.heap.size 2 1 (.slice (some ⟨w.heap.size, 0, none⟩) n n) n (rws (one fun _ => v) n) ∧ Below w.heap.size w w' := by
  have HM := Lib.hid (fun W => mul_one n hn W)
  have hn0 : ¬ (n : Int) < 0 := by omega
  have hn0d : decide ((n : Int) < 0) = false := decide_eq_false hn0
  have hc1 : IntKind.u64.wrap (n : Int) = (n : Int) := by rw [IntKind.wrap_u64]; omega
  have hc2 : IntKind.i64.wrap (n : Int) = (n : Int) := IntWalk.i64_in _ (by omega)
  have hc3 : wrap64 (n : Int) = (n : Int) := by rw [← IntWalk.i64_left]; exact hc2
  have hbig : ¬ (9223372036854775807 : Int) < (n : Int) := by omega
  obtain ⟨i0, hi, hz0, hz1, hz2⟩ := rown.info_get infoI
  have hmk := fun W => run_make (P := Try.prog) W 144 2 i0 _ Try.underlying144 hi hz0 .i64 .i64 n n (by omega) (by omega) (by rw [hz2]; omega) (by omega)
  simp only [Int.toNat_natCast] at hmk
  have hcur : madeCells (Value.int .i64 0).cells (n * i0.size) = Array.replicate n (Value.int .i64 0) := by
    rw [hz1, Nat.mul_one]
    apply Array.ext_getElem?
    intro j
    rcases Nat.lt_or_ge j n with h | h
    · simp [madeCells, Value.cells, h, Nat.mod_one]
    · simp [madeCells, h]
  rw [hcur] at hmk
  have K0 := Lib.hid (show (w.alloc (.cells (Array.replicate n (Value.int .i64 0)) 2)).heap[w.heap.size]? = some (.cells (List.replicate n (Value.int .i64 0)).toArray 2 (0, 0)) by rw [heap_alloc_new]; simp)
  have BA := Lib.hid (below_alloc1 w (.cells (Array.replicate n (Value.int .i64 0)) 2))
  have hA := Lib.hid (show (w.alloc (.cells (Array.replicate n (Value.int .i64 0)) 2)).cell? ⟨g0, 0, none⟩ = some (.int .i64 v) from (BA.out.cell (p := ⟨g0, 0, none⟩) (World.block_lt_of_cell? w ⟨g0, 0, none⟩ ha)).trans ha)
  have hsz : (Try.prog.info? 2).map (·.size) = some 1 := by kernel_rfl
  obtain ⟨W2, hcp, K2, B2⟩ : ∃ W2, (Builtin.copy_ #[144, 144] 3 #[.slice (some ⟨w.heap.size, 0, none⟩) n n, .slice (some ⟨g0, 0, none⟩) 1 1]).run Try.prog (w.alloc (.cells (Array.replicate n (Value.int .i64 0)) 2)) = .ok (.int .i64 1) W2 ∧ W2.heap[w.heap.size]? = some (.cells (fill v n 1).toArray 2 (0, 0)) ∧ Below w.heap.size w W2 := by
    have h := run_copy_row (P := Try.prog) (w.alloc (.cells (Array.replicate n (Value.int .i64 0)) 2)) 144 144 3 2 w.heap.size 0 n n ⟨g0, 0, none⟩ 1 1 (List.replicate n (Value.int .i64 0)).toArray 2 [.int .i64 v] Try.underlying144 hsz K0.out (by show 1 = min 1 n; omega) (fun j u hj => by cases j with | zero => (simp at hj; subst hj; exact hA.out) | succ j => cases hj) (by simp; omega) (by intro u hu; simp at hu; subst hu; rfl)
    refine ⟨_, h, ?_, below_setRow BA.out (Nat.le_refl _) _⟩
    rw [setRow_heap _ _ _ _ _ _ K0.out]
    congr 2
    unfold fill
    cases n with
    | zero => omega
    | succ n => simp [List.replicate_succ]
  have HK := Lib.hid K2
  have HB := Lib.hid B2
  clear hz0 hz1 hz2 hi hcur K2 B2 K0 BA hA ha
  go_enter Try.func145, Try.ntmps145
  go_wp2_with fail
  refine (HM.out _).mono ?_
  rintro e w1 ⟨rfl, rfl⟩
  go_wp2
  go_loopw [8] (fun i w' => ∃ m : Nat, 1 ≤ m ∧ m ≤ n ∧ i = .int .i64 (m : Int) ∧ Hid (w'.heap[w.heap.size]? = some (.cells (fill v n m).toArray 2 (0, 0))) ∧ Hid (Below w.heap.size w w')) (fun i _ => n - (intOf i).toNat)
  case atStart => exact ⟨1, Nat.le_refl _, h1, rfl, HK, HB⟩
  case round =>
    obtain ⟨m, hm1, hm, rfl, HK, HB⟩ := hrel
    by_cases hlt : m < n
    · have hli : (m : Int) < (n : Int) := by omega
      have hlc := fill_len v n m hm
      go_wp2
      have hmn : IntKind.i64.wrap ((m : Int) + ((min m (n - m) : Nat) : Int)) = ((m + min m (n - m) : Nat) : Int) := by rw [IntWalk.i64_in _ (by omega)]; omega
      have hsrc : ∀ j u, (List.replicate (min m (n - m)) (Value.int .i64 v))[j]? = some u → wr.drew.cell? ((⟨w.heap.size, 0, none⟩ : Addr).add j) = some u := fun j u hj => by
        have hj' : j < min m (n - m) := by
          refine Classical.byContradiction fun h => ?_
          rw [List.getElem?_eq_none (by simp; omega)] at hj
          cases hj
        rw [List.getElem?_replicate, if_pos hj'] at hj
        have e : (⟨w.heap.size, 0, none⟩ : Addr).add j = ⟨w.heap.size, j, none⟩ := by unfold Addr.add; split <;> simp_all
        rw [e]
        show wr.cell? ⟨w.heap.size, j, none⟩ = _
        rw [cell_of_block HK.out, ← hj]
        simp only [List.getElem?_toArray]
        unfold fill
        rw [List.getElem?_append_left (by rw [List.length_replicate]; omega), List.getElem?_replicate, if_pos (by omega)]
      have hfit : m + (List.replicate (min m (n - m)) (Value.int .i64 v)).length ≤ (fill v n m).length := by rw [hlc, List.length_replicate]; omega
      have h1c : ∀ u ∈ List.replicate (min m (n - m)) (Value.int .i64 v), u.oneCell' = true := fun u hu => by rw [(List.mem_replicate.1 hu).2]; rfl
      have hnl : (List.replicate (min m (n - m)) (Value.int .i64 v)).length = Nat.min m (n - m) := by rw [List.length_replicate]
      have hnm : ¬ n = m := by omega
      go_region_law (refine step_copy_splice rfl (.tmp 41) (.tmp 44) 144 144 rfl 2 Try.underlying144 hsz (some ⟨w.heap.size, m, none⟩) (some ⟨w.heap.size, 0, none⟩) (n - m) (n - m) m n (by simp [Act.eval, Act.put, hnm]) (by simp [Act.eval, Act.put]) w.heap.size m (fill v n m) 2 HK.out (List.replicate (min m (n - m)) (.int .i64 v)) hnl (fun _ => ⟨rfl, _, rfl, hsrc⟩) hfit h1c w.heap.size w HB.out.drew (Nat.le_refl _) ?_; intro w4 hg4 hb4; have HK4 := Lib.hid hg4; have HB4 := Lib.hid hb4; clear hg4 hb4)
      all_goals
        show Exit.inBlock _ _ _ (Act.put (Act.put _ (some 46) _) (some 8) _) _
        simp [Act.put]
        go_roundw
        case rel =>
          refine ⟨_, _, _, _, _, _, _, _, _, _, _, _, _, _, ⟨m + min m (n - m), ?_, ?_, ?_, Lib.hid ?_, HB4⟩, rfl⟩
          · omega
          · omega
          · rw [Int.natCast_add]
          · rw [← fill_more v n m (min m (n - m)) (by omega)]; exact HK4.out.out
        case measure => simp [intOf]; omega
    · obtain rfl : m = n := by omega
      have hli : ¬ (m : Int) < (m : Int) := by omega
      go_wp2
      go_ret
      refine ⟨rfl, ?_, HB.out⟩
      have hl := rws_len (one_len fun _ => v) m
      have hfl := fill_len v m m (Nat.le_refl _)
      refine ⟨by omega, .inr ⟨w.heap.size, m, _, rfl, Nat.le_refl _, HK.out, Nat.le_refl _, by simp only [maxLen]; omega, by rw [List.size_toArray, hfl]; omega, ?_⟩⟩
      rw [Nat.mul_one, List.take_of_length_le (by rw [hfl]; omega)]
      apply List.ext_getElem?
      intro j
      rcases Nat.lt_or_ge j m with h | h
      · have h2 := rws_get (one_len fun _ => v) j 0 (by omega) m h
        rw [Nat.mul_one, Nat.add_zero] at h2
        rw [h2]
        unfold fill
        rw [List.getElem?_append_left (by rw [List.length_replicate]; omega), List.getElem?_replicate, if_pos h]
        rfl
      · rw [List.getElem?_eq_none (by rw [hfl]; omega), List.getElem?_eq_none (by omega)]
end Go.Proofs.Ytkcfghbkcgommaa.dp
