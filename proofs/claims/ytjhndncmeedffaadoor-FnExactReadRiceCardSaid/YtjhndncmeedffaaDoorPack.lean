/-
  Proved: both programs pack bits into the same bytes (contracts).
  Conditions: none.
-/
import Derived.Test.YtjhndncmeedffaaDoorBytes
import Derived.Test.YtjhndncmeedffaaDoorBits
import Derived.RegionTactic
import Derived.BigRegion
namespace Go.Proofs.YtjhndncmeedffaaDoor.pack
open Go.ChangeShapes Go.WideShapes Go.ChangeAt Go.RowKit Go.Joins
open Go.Proofs.YtjhndncmeedffaaDoor.core Go.Proofs.YtjhndncmeedffaaDoor.rows Go.Proofs.YtjhndncmeedffaaDoor.bits
set_option linter.unusedVariables false
set_option linter.unusedSimpArgs false

/-- Byte i of the first m bits of l, packed. -/
def pb (l : List UInt8) : Nat → Nat → Nat
  | 0, _ => 0
  | m + 1, i => if m / 8 = i ∧ (l[m]?.getD 0).toNat = 49 then pb l m i + 2 ^ (7 - m % 8) else pb l m i
theorem pow_table (r : Nat) (h : r < 8) : 2 ^ (7 - r) * 2 = 2 ^ (8 - r) ∧ 1 ≤ 2 ^ (7 - r) ∧ 2 ^ (7 - r) ≤ 128 ∧ 128 / 2 ^ r = 2 ^ (7 - r) ∧ 2 ^ (8 - r) ≤ 256 := by
  have : r = 0 ∨ r = 1 ∨ r = 2 ∨ r = 3 ∨ r = 4 ∨ r = 5 ∨ r = 6 ∨ r = 7 := by omega
  rcases this with rfl | rfl | rfl | rfl | rfl | rfl | rfl | rfl <;> decide
/-- What has been laid into byte i lies in its highest t bits. -/
theorem pb_high (l : List UInt8) : ∀ m i t, m ≤ 8 * i + t → t ≤ 8 → ∃ q, pb l m i = q * 2 ^ (8 - t) ∧ q + 1 ≤ 2 ^ t := by
  intro m
  induction m with
  | zero => intro i t _ _; exact ⟨0, by simp [pb], by have := Nat.two_pow_pos t; omega⟩
  | succ m ih =>
    intro i t h ht
    simp only [pb]
    split
    · rename_i hh
      have hm : m = 8 * i + m % 8 := by omega
      have hr : m % 8 < t := by omega
      obtain ⟨q, hq, hq2⟩ := ih i (m % 8) (by omega) (by omega)
      obtain ⟨d, rfl⟩ : ∃ d, t = m % 8 + 1 + d := ⟨t - m % 8 - 1, by omega⟩
      obtain ⟨p1, p2, p3, p4, p5⟩ := pow_table (m % 8) (by omega)
      have e1 : 7 - m % 8 = (8 - (m % 8 + 1 + d)) + d := by omega
      refine ⟨(q * 2 + 1) * 2 ^ d, ?_, ?_⟩
      · rw [hq, ← p1, e1, Nat.pow_add]
        generalize 2 ^ (8 - (m % 8 + 1 + d)) = a
        generalize 2 ^ d = b
        rw [Nat.add_mul, Nat.add_mul, Nat.one_mul]
        congr 1
        · simp only [Nat.mul_comm, Nat.mul_left_comm, Nat.mul_assoc]
        · exact Nat.mul_comm _ _
      · have h2 : 2 ^ (m % 8 + 1 + d) = 2 ^ (m % 8) * 2 * 2 ^ d := by rw [Nat.pow_add, Nat.pow_succ]
        rw [h2]
        have h3 : (q * 2 + 1) * 2 ^ d + 1 ≤ (q * 2 + 2) * 2 ^ d := by
          have := Nat.two_pow_pos d
          rw [Nat.add_mul, Nat.add_mul]
          omega
        refine Nat.le_trans h3 (Nat.mul_le_mul_right _ (by omega))
    · by_cases h2 : m ≤ 8 * i + t
      · exact ih i t h2 ht
      · omega
theorem pb_stay (l : List UInt8) (m i : Nat) (h : ¬ (m / 8 = i ∧ (l[m]?.getD 0).toNat = 49)) : pb l (m + 1) i = pb l m i := by simp only [pb]; rw [if_neg h]
theorem pb_set (l : List UInt8) (m : Nat) (h : (l[m]?.getD 0).toNat = 49) : pb l (m + 1) (m / 8) = pb l m (m / 8) + 2 ^ (7 - m % 8) := by
  show (if m / 8 = m / 8 ∧ (l[m]?.getD 0).toNat = 49 then pb l m (m / 8) + 2 ^ (7 - m % 8) else pb l m (m / 8)) = _
  rw [if_pos ⟨rfl, h⟩]
theorem pb_lt (l : List UInt8) (m i : Nat) : pb l m i < 256 := by
  by_cases h : m ≤ 8 * i + 8
  · obtain ⟨q, h1, h2⟩ := pb_high l m i 8 h (Nat.le_refl _)
    rw [h1]
    have : 2 ^ (8 - 8) = 1 := by decide
    have : 2 ^ 8 = 256 := by decide
    omega
  · have key : ∀ k, pb l (8 * i + 8 + k) i = pb l (8 * i + 8) i := by
      intro k
      induction k with
      | zero => rfl
      | succ k ih => rw [← ih, show 8 * i + 8 + (k + 1) = (8 * i + 8 + k) + 1 by omega]; exact pb_stay l (8 * i + 8 + k) i (fun h => by have := h.1; omega)
    have e : m = 8 * i + 8 + (m - (8 * i + 8)) := by omega
    rw [e, key]
    obtain ⟨q, h1, h2⟩ := pb_high l (8 * i + 8) i 8 (Nat.le_refl _) (Nat.le_refl _)
    rw [h1]
    have : 2 ^ (8 - 8) = 1 := by decide
    have : 2 ^ 8 = 256 := by decide
    omega
/-- The bit that is laid into a byte is added to it. -/
theorem or_bit (l : List UInt8) (m : Nat) : bits BinOp.or IntKind.u8 ((pb l m (m / 8) : Nat) : Int) ((128 : Int) / 2 ^ (m % 8)) = ((pb l m (m / 8) + 2 ^ (7 - m % 8) : Nat) : Int) := by
  obtain ⟨p1, p2, p3, p4, p5⟩ := pow_table (m % 8) (by omega)
  have e : (128 : Int) / 2 ^ (m % 8) = ((2 ^ (7 - m % 8) : Nat) : Int) := by rw [← p4]; simp
  obtain ⟨q, h1, h2⟩ := pb_high l m (m / 8) (m % 8) (by omega) (by omega)
  have h3 := pb_lt l m (m / 8)
  rw [e]
  have := bits_join .u8 8 (by decide) wraps_u8 (8 - m % 8) ((pb l m (m / 8) : Nat) : Int) ((2 ^ (7 - m % 8) : Nat) : Int) (by omega) (by
      have e2 : (2 : Int) ^ (8 - m % 8) = ((2 ^ (8 - m % 8) : Nat) : Int) := by simp
      rw [e2, h1]
      exact_mod_cast Nat.mul_mod_left _ _) (by have : (2 : Int) ^ 8 = 256 := by decide
                                               omega) (by omega) (by
      have e2 : (2 : Int) ^ (8 - m % 8) = ((2 ^ (8 - m % 8) : Nat) : Int) := by simp
      rw [e2, ← p1]
      omega) (by have : (2 : Int) ^ 8 = 256 := by decide
                 omega)
  rw [this]
  omega
/-- The bytes. -/
def packL (l : List UInt8) : List UInt8 := (List.range ((l.length + 7) / 8)).map fun i => (pb l l.length i).toUInt8
theorem packL_length (l : List UInt8) : (packL l).length = (l.length + 7) / 8 := by simp [packL]
theorem packL_get (l : List UInt8) (j : Nat) (h : j < (packL l).length) : (packL l)[j].toNat = pb l l.length j := by
  have := pb_lt l l.length j
  simp only [packL, List.getElem_map, List.getElem_range]
  exact Lib.toUInt8_toNat this

theorem make_bytes (n : Nat) (hn : n ≤ 1048576) (w : World) : (Instr.makeSlice 28 (.int .i64 (n : Int)) (.int .i64 (n : Int))).run Tryd.prog w = .ok (.slice (some ⟨w.heap.size, 0, none⟩) n n) (w.alloc (.cells (Array.replicate n (.int .u8 0)) 5)) := by
  obtain ⟨i0, hi, hz0, hz1, hz2⟩ := info_get infoByte
  have hr := run_make (P := Tryd.prog) w 28 5 i0 _ Tryd.underlying28 hi hz0 .i64 .i64 n n (by omega) (by omega) (by rw [hz2]; omega) (by omega)
  simp only [Int.toNat_natCast] at hr
  rw [hr, hz1]
  congr 3
  apply Array.ext
  · simp [madeCells]
  · intro i h1 h2
    simp [madeCells] at h1 ⊢
    simp [Value.cells, Nat.mod_one]
/-- The bytes while they are laid: the first k bits have been. -/
structure Laid (w : World) (G N : Nat) (l : List UInt8) (k : Nat) (w' : World) : Prop where
  row : ∃ cur : Array Value, w'.heap[G]? = some (.cells cur 5 (0, 0)) ∧ cur.size = N ∧ ∀ i, i < N → cur[i]? = some (.int .u8 ((pb l k i : Nat) : Int))
  below : Below w.heap.size w w'
theorem Laid.cell {w w' : World} {G N k : Nat} {l : List UInt8} (h : Laid w G N l k w') {i : Nat} (hi : i < N) : w'.cell? ⟨G, i, none⟩ = some (.int .u8 ((pb l k i : Nat) : Int)) ∧ w'.frozen? ⟨G, i, none⟩ = false := by
  obtain ⟨⟨cur, h1, h2, h3⟩, _⟩ := h
  exact ⟨by rw [cell_of_block h1]; exact h3 i hi, unfrozen_of_block h1 i⟩
theorem Laid.stay {w w' w2 : World} {G N k : Nat} {l : List UInt8} (h : Laid w G N l k w') (hk : ¬ (l[k]?.getD 0).toNat = 49) (hw : w2.heap = w'.heap) (h1 : w2.os = w'.os) (h2 : w2.tape = w'.tape) (h3 : w2.output = w'.output) : Laid w G N l (k + 1) w2 := by
  obtain ⟨⟨cur, q1, q2, q3⟩, q4⟩ := h
  refine ⟨⟨cur, by rw [hw]; exact q1, q2, fun i hi => ?_⟩, ⟨h1.trans q4.os, h2.trans q4.tape, h3.trans q4.output, by rw [hw]; exact q4.size, fun j hj => by rw [hw]; exact q4.block j hj⟩⟩
  rw [pb_stay l k i (fun h => hk h.2)]
  exact q3 i hi
theorem Laid.put {w w' w2 : World} {G N k : Nat} {l : List UInt8} (h : Laid w G N l k w') (hG : w.heap.size ≤ G) (hk : (l[k]?.getD 0).toNat = 49) (hN : k / 8 < N) (hw : w2.heap = (w'.setCell ⟨G, k / 8, none⟩ (.int .u8 ((pb l k (k / 8) + 2 ^ (7 - k % 8) : Nat) : Int))).heap) (h1 : w2.os = w'.os) (h2 : w2.tape = w'.tape) (h3 : w2.output = w'.output) : Laid w G N l (k + 1) w2 := by
  obtain ⟨⟨cur, q1, q2, q3⟩, q4⟩ := h
  have b1 := block_setCell (i := k / 8) q1 (.int .u8 ((pb l k (k / 8) + 2 ^ (7 - k % 8) : Nat) : Int))
  have q5 := q4.setCell (p := ⟨G, k / 8, none⟩) hG (.int .u8 ((pb l k (k / 8) + 2 ^ (7 - k % 8) : Nat) : Int))
  refine ⟨⟨_, by rw [hw]; exact b1, by simp [q2], fun i hi => ?_⟩, ⟨h1.trans q4.os, h2.trans q4.tape, h3.trans q4.output, by rw [hw]; exact q5.size, fun j hj => by rw [hw]; exact q5.block j hj⟩⟩
  by_cases e : k / 8 = i
  · subst e
    rw [Array.getElem?_setIfInBounds_self_of_lt (by omega), pb_set l k hk]
  · rw [Array.getElem?_setIfInBounds_ne e, pb_stay l k i (fun h => e h.1)]
    exact q3 i hi
theorem Laid.start (w : World) (N : Nat) (l : List UInt8) : Laid w w.heap.size N l 0 (w.alloc (.cells (Array.replicate N (.int .u8 0)) 5)) :=
  ⟨⟨_, heap_alloc_new w _, by simp, fun i hi => by simp [pb, hi]⟩, below_alloc1 _ _⟩
theorem Laid.text {w w' : World} {G c : Nat} {l : List UInt8} (h : Laid w G ((l.length + 7) / 8) l l.length w') : (convert 28 9 (.slice (some ⟨G, 0, none⟩) ((l.length + 7) / 8) c)).run Tryd.prog w' = .ok (.string ⟨(packL l).toArray⟩) w' := by
  have hr := run_convert_bytes_back (P := Tryd.prog) w' 28 9 5 ⟨G, 0, none⟩ c (packL l) Tryd.underlying28 Tryd.underlying5 Tryd.underlying9 (fun j hj => by
    rw [add_at, packL_get l j hj]
    rw [packL_length] at hj
    exact (h.cell hj).1)
  rw [packL_length] at hr
  exact hr

theorem at_get (s : ByteArray) (k : Nat) (h : k < s.size) : (s.data.toList[k]?.getD 0) = s[k] := by
  rw [List.getElem?_eq_getElem (by simpa using h), Option.getD_some]
  rfl
theorem len_eq (s : ByteArray) : s.data.toList.length = s.size := by simp
set_option maxRecDepth 100000 in
set_option maxHeartbeats 2000000 in
theorem packS_calls (s : ByteArray) (hs : s.size ≤ 100000) (w : World) :
    Calls Tryd.prog 20 #[.string s] w fun e w' => e = .returned (.string ⟨(packL s.data.toList).toArray⟩) ∧ Below w.heap.size w w' := by
  obtain ⟨N, hN⟩ : ∃ N, N = (s.size + 7) / 8 := ⟨_, rfl⟩
  have hmk := make_bytes N (by omega) w
  have HN := Lib.hid hN
  have hq : ((s.size : Int) + 7) / 8 = (N : Int) := by omega
  have hNs : s.size ≤ 8 * N := by omega
  have hN2 : N ≤ 20000 := by omega
  clear hN
  go_enter Tryd.func20, Tryd.ntmps20
  go_wp2
  clear hmk hq
  go_loopw [4] (fun i w' => ∃ k : Nat, k ≤ s.size ∧ i = .int .i64 (k : Int) ∧ Hid (Laid w w.heap.size N s.data.toList k w')) (fun i _ => s.size - (intOf i).toNat)
  case atStart => exact ⟨0, Nat.zero_le _, rfl, Lib.hid (Laid.start w N _)⟩
  case round =>
    obtain ⟨k, hk, rfl, HL⟩ := hrel
    by_cases hlt : k < s.size
    · have hg := at_get s k hlt
      by_cases h49 : s[k].toNat = 49
      · have hb : ((s[k].toNat : Int) == 49) = true := by simp; omega
        have HK := Lib.hid (show (s.data.toList[k]?.getD 0).toNat = 49 by rw [hg]; exact h49)
        obtain ⟨c1, f1⟩ := HL.out.cell (i := k / 8) (by omega)
        have HO := Lib.hid (or_bit s.data.toList k)
        have hlt8 : k / 8 < N := by omega
        have hr8 : k % 8 < 8 := by omega
        clear hg h49
        go_wp2
        go_roundw
        case rel => exact ⟨k + 1, by omega, by go_num, Lib.hid (by rw [HO.out]; exact HL.out.put (Nat.le_refl _) HK.out hlt8 rfl rfl rfl rfl)⟩
        case measure => simp [intOf]; omega
      · have hb : ((s[k].toNat : Int) == 49) = false := by simp; omega
        have HK := Lib.hid (show ¬ (s.data.toList[k]?.getD 0).toNat = 49 by rw [hg]; exact h49)
        clear hg h49
        go_wp2
        go_roundw
        case rel => exact ⟨k + 1, by omega, by go_num, Lib.hid (HL.out.stay HK.out rfl rfl rfl rfl)⟩
        case measure => simp [intOf]; omega
    · obtain rfl : k = s.size := by omega
      have ht : (convert 28 9 (.slice (some ⟨w.heap.size, 0, none⟩) N N)).run Tryd.prog wr = .ok (.string ⟨(packL s.data.toList).toArray⟩) wr := by
        have h := Laid.text (c := N) (l := s.data.toList) (w := w) (w' := wr) (G := w.heap.size) (by rw [len_eq, ← HN.out]; exact HL.out)
        rw [len_eq, ← HN.out] at h
        exact h
      go_wp2
      go_ret
      exact ⟨rfl, HL.out.below⟩
set_option maxRecDepth 100000 in
set_option maxHeartbeats 2000000 in
theorem packI_calls (s : ByteArray) (hs : s.size ≤ 100000) (w : World) :
    Calls Tryd.prog 22 #[.string s] w fun e w' => e = .returned (.string ⟨(packL s.data.toList).toArray⟩) ∧ Below w.heap.size w w' := by
  obtain ⟨N, hN⟩ : ∃ N, N = (s.size + 7) / 8 := ⟨_, rfl⟩
  have hmk := make_bytes N (by omega) w
  have HN := Lib.hid hN
  have hq : ((s.size : Int) + 8 - 1) / 8 = (N : Int) := by omega
  have hNs : s.size ≤ 8 * N := by omega
  have hN2 : N ≤ 20000 := by omega
  clear hN
  go_enter Tryd.func22, Tryd.ntmps22
  go_wp2
  clear hmk hq
  go_loopw [13] (fun i w' => ∃ k : Nat, k ≤ s.size ∧ i = .int .i64 (k : Int) ∧ Hid (Laid w w.heap.size N s.data.toList k w')) (fun i _ => s.size - (intOf i).toNat)
  case atStart => exact ⟨0, Nat.zero_le _, rfl, Lib.hid (Laid.start w N _)⟩
  case round =>
    obtain ⟨k, hk, rfl, HL⟩ := hrel
    by_cases hlt : k < s.size
    · have hg := at_get s k hlt
      by_cases h49 : s[k].toNat = 49
      · have hb : ((s[k].toNat : Int) == 49) = true := by simp; omega
        have HK := Lib.hid (show (s.data.toList[k]?.getD 0).toNat = 49 by rw [hg]; exact h49)
        obtain ⟨c1, f1⟩ := HL.out.cell (i := k / 8) (by omega)
        have HO := Lib.hid (or_bit s.data.toList k)
        have hlt8 : k / 8 < N := by omega
        have hr8 : k % 8 < 8 := by omega
        clear hg h49
        go_wp2
        go_region
        all_goals
          go_wp2
          go_roundw
          case rel => exact ⟨k + 1, by omega, by go_num, Lib.hid (by rw [HO.out]; exact HL.out.put (Nat.le_refl _) HK.out hlt8 rfl rfl rfl rfl)⟩
          case measure => simp [intOf]; omega
      · have hb : ((s[k].toNat : Int) == 49) = false := by simp; omega
        have HK := Lib.hid (show ¬ (s.data.toList[k]?.getD 0).toNat = 49 by rw [hg]; exact h49)
        clear hg h49
        go_wp2
        go_roundw
        case rel => exact ⟨k + 1, by omega, by go_num, Lib.hid (HL.out.stay HK.out rfl rfl rfl rfl)⟩
        case measure => simp [intOf]; omega
    · obtain rfl : k = s.size := by omega
      have ht : (convert 28 9 (.slice (some ⟨w.heap.size, 0, none⟩) N N)).run Tryd.prog wr = .ok (.string ⟨(packL s.data.toList).toArray⟩) wr := by
        have h := Laid.text (c := N) (l := s.data.toList) (w := w) (w' := wr) (G := w.heap.size) (by rw [len_eq, ← HN.out]; exact HL.out)
        rw [len_eq, ← HN.out] at h
        exact h
      go_wp2
      go_ret
      exact ⟨rfl, HL.out.below⟩

theorem isBit_of (x : UInt8) : isBit x ↔ x.toNat = 48 ∨ x.toNat = 49 := Iff.rfl
def AllBits (s : ByteArray) (k : Nat) : Prop := ∀ i, i < k → isBit (s.data.toList[i]?.getD 0)
set_option maxRecDepth 100000 in
set_option maxHeartbeats 2000000 in
theorem okS_calls (s : ByteArray) (hs : s.size ≤ 1048576) (w : World) (r : Bool) (hr : r = true ↔ s.size ≤ 100000 ∧ AllBits s s.size) :
    Calls Tryd.prog 19 #[.string s] w fun e w' => e = .returned (.bool r) ∧ w = w' := by
  have HR := Lib.hid hr
  clear hr
  go_enter Tryd.func19, Tryd.ntmps19
  go_wp2
  go_loop [3] (fun i => ∃ k : Nat, k ≤ s.size ∧ i = .int .i64 (k : Int) ∧ Hid (AllBits s k)) (fun i => s.size - (intOf i).toNat)
  case atStart => exact ⟨0, Nat.zero_le _, rfl, Lib.hid fun i hi => absurd hi (by omega)⟩
  case round =>
    obtain ⟨k, hk, rfl, HA⟩ := hrel
    by_cases hlt : k < s.size
    · have hg := at_get s k hlt
      by_cases h48 : s[k].toNat = 48
      · have hb : ((s[k].toNat : Int) != 48) = false := by simp; omega
        have HS := Lib.hid (show AllBits s (k + 1) from fun i hi => by
          rcases Nat.lt_or_ge i k with h | h
          · exact HA.out i h
          · obtain rfl : i = k := by omega
            rw [hg]; exact .inl h48)
        clear hg h48
        go_wp2
        go_round
        case rel => exact ⟨k + 1, by omega, by go_num, HS⟩
        case measure => simp [intOf]; omega
      · have hb : ((s[k].toNat : Int) != 48) = true := by simp; omega
        by_cases h49 : s[k].toNat = 49
        · have hb2 : ((s[k].toNat : Int) != 49) = false := by simp; omega
          have HS := Lib.hid (show AllBits s (k + 1) from fun i hi => by
            rcases Nat.lt_or_ge i k with h | h
            · exact HA.out i h
            · obtain rfl : i = k := by omega
              rw [hg]; exact .inr h49)
          clear hg h48 h49
          go_wp2
          go_round
          case rel => exact ⟨k + 1, by omega, by go_num, HS⟩
          case measure => simp [intOf]; omega
        · have hb2 : ((s[k].toNat : Int) != 49) = true := by simp; omega
          have hrf : r = false := by
            cases hh : r
            · rfl
            · have h := (HR.out.1 hh).2 k hlt
              rw [hg] at h
              rcases h with h | h
              · exact absurd h h48
              · exact absurd h h49
          subst hrf
          clear hg h48 h49 HA
          go_wp2
          go_ret
          exact ⟨rfl, rfl⟩
    · obtain rfl : k = s.size := by omega
      have hrt : r = decide ((s.size : Int) ≤ 100000) := by
        rw [Bool.eq_iff_iff, HR.out]
        simp
        exact ⟨fun h => by omega, fun h => ⟨by omega, HA.out⟩⟩
      have HT := Lib.hid hrt
      clear hrt HA HR
      go_wp2
      go_ret
      exact ⟨by rw [HT.out]; rfl, rfl⟩
end Go.Proofs.YtjhndncmeedffaaDoor.pack
