/-
  Proved: what the document's reader of Rice codes returns.
  Conditions: none.
-/
import Derived.Test.YtjhndncmeedffaaDoorRng
import Derived.Test.YtjhndncmeedffaaDoorPackI
namespace Go.Proofs.YtjhndncmeedffaaDoor.readR
open Go.ChangeShapes Go.WideShapes Go.ChangeAt Go.RowKit Go.Joins
open Go.Proofs.YtjhndncmeedffaaDoor.core Go.Proofs.YtjhndncmeedffaaDoor.rows Go.Proofs.YtjhndncmeedffaaDoor.bits Go.Proofs.YtjhndncmeedffaaDoor.numS Go.Proofs.YtjhndncmeedffaaDoor.ints
set_option linter.unusedVariables false
set_option linter.unusedSimpArgs false

theorem val_le (l : List UInt8) (h : ∀ b ∈ l, isBit b) (hl : l.length ≤ 32) (k : Nat) (hk : k ≤ l.length) : val (l.take k) ≤ 4294967296 := by
  have h1 := val_lt l h k hk
  have h2 : 2 ^ k ≤ 2 ^ 32 := Nat.pow_le_pow_right (by decide) (by omega)
  have h3 : 2 ^ 32 = 4294967296 := by decide
  omega
set_option maxRecDepth 100000 in
set_option maxHeartbeats 2000000 in
theorem value_calls (t : ByteArray) (ht : t.size ≤ 32) (hb : ∀ b ∈ t.data.toList, isBit b) (w : World) :
    Calls Tryd.prog 37 #[.string t] w fun e w' => e = .returned (.int .i64 (val t.data.toList : Nat)) ∧ w = w' := by
  have HL := Lib.hid (pack.len_eq t)
  have HV := Lib.hid (val_le t.data.toList hb (by rw [HL.out]; exact ht))
  have HT := Lib.hid (val_take t.data.toList)
  have HF := Lib.hid (show t.data.toList.take t.size = t.data.toList from List.take_of_length_le (by rw [HL.out]; exact Nat.le_refl _))
  have HB := Lib.hid hb
  clear hb
  go_enter Tryd.func37, Tryd.ntmps37
  go_wp2
  go_loop [3, 4] (fun z i => ∃ k v : Nat, k ≤ t.size ∧ v ≤ 4294967296 ∧ i = .int .i64 (k : Int) ∧ z = .int .i64 (v : Int) ∧ Hid (v = val (t.data.toList.take k))) (fun _ i => t.size - (intOf i).toNat)
  case atStart => exact ⟨0, 0, Nat.zero_le _, by omega, rfl, rfl, Lib.hid rfl⟩
  case round =>
    obtain ⟨k, v, hk, hv, rfl, rfl, HZ⟩ := hrel
    by_cases hlt : k < t.size
    · have hbk : isBit t[k] := HB.out _ (by have := List.getElem_mem (l := t.data.toList) (n := k) (by rw [HL.out]; exact hlt); exact this)
      have HS := Lib.hid (show val (t.data.toList.take (k + 1)) = 2 * v + (t[k].toNat - 48) by rw [HT.out k (by rw [HL.out]; exact hlt), HZ.out]; rfl)
      have HU := Lib.hid (HV.out (k + 1) (by rw [HL.out]; omega))
      rcases hbk with h48 | h49
      · rw [h48] at HS
        clear HV HT
        go_wp2
        go_round
        case rel => exact ⟨k + 1, 2 * v, by omega, by have := HU.out; have := HS.out; omega, by go_num, by go_num, Lib.hid (by rw [HS.out]; omega)⟩
        case measure => simp [intOf]; omega
      · rw [h49] at HS
        clear HV HT
        go_wp2
        go_round
        case rel => exact ⟨k + 1, 2 * v + 1, by omega, by have := HU.out; have := HS.out; omega, by go_num, by go_num, Lib.hid (by rw [HS.out])⟩
        case measure => simp [intOf]; omega
    · obtain rfl : k = t.size := by omega
      have HZ2 := Lib.hid (show v = val t.data.toList by rw [HZ.out, HF.out])
      clear HZ
      go_wp2
      go_ret
      exact ⟨ret_int (by rw [HZ2.out]), by trivial⟩

theorem neg_half (m : Nat) (hm : 2 * m + 1 ≤ 1099511627776) : wrap64 (-(2 * (m : Int) + 1 + 1).tdiv 2) = -((m : Int) + 1) := by
  have e : (2 * (m : Int) + 1 + 1).tdiv 2 = (m : Int) + 1 := by rw [Int.tdiv_eq_ediv_of_nonneg (by omega)]; omega
  rw [e]
  unfold wrap64
  omega
set_option maxRecDepth 100000 in
set_option maxHeartbeats 1000000 in
theorem unfoldS_calls (u : Nat) (hu : u ≤ 1099511627776) (w : World) :
    Calls Tryd.prog 38 #[.int .i64 u] w fun e w' => e = .returned (.int .i64 (unfold' u)) ∧ w = w' := by
  by_cases h : u % 2 = 1
  · have HU := Lib.hid (show unfold' u = -(((u : Int) + 1) / 2) from if_pos h)
    obtain ⟨m, rfl⟩ : ∃ m, u = 2 * m + 1 := ⟨u / 2, by omega⟩
    have HN := Lib.hid (neg_half m hu)
    go_enter Tryd.func38, Tryd.ntmps38
    go_wp2
    go_ret
    exact ⟨ret_int (by rw [HU.out, HN.out]; omega), by trivial⟩
  · have HU := Lib.hid (show unfold' u = (u : Int) / 2 from if_neg h)
    obtain ⟨m, rfl⟩ : ∃ m, u = 2 * m := ⟨u / 2, by omega⟩
    go_enter Tryd.func38, Tryd.ntmps38
    go_wp2
    go_ret
    exact ⟨ret_int (by rw [HU.out]; omega), by trivial⟩
set_option maxRecDepth 100000 in
set_option maxHeartbeats 1000000 in
theorem unfoldI_calls (u : Nat) (hu : u ≤ 1099511627776) (w : World) :
    Calls Tryd.prog 43 #[.int .i64 u] w fun e w' => e = .returned (.int .i64 (unfold' u)) ∧ w = w' := by
  by_cases h : u % 2 = 1
  · have HU := Lib.hid (show unfold' u = -(((u : Int) + 1) / 2) from if_pos h)
    obtain ⟨m, rfl⟩ : ∃ m, u = 2 * m + 1 := ⟨u / 2, by omega⟩
    have HN := Lib.hid (neg_half m hu)
    go_enter Tryd.func43, Tryd.ntmps43
    go_wp2
    go_ret
    exact ⟨ret_int (by rw [HU.out, HN.out]; omega), by trivial⟩
  · have HU := Lib.hid (show unfold' u = (u : Int) / 2 from if_neg h)
    obtain ⟨m, rfl⟩ : ∃ m, u = 2 * m := ⟨u / 2, by omega⟩
    go_enter Tryd.func43, Tryd.ntmps43
    go_wp2
    go_ret
    exact ⟨ret_int (by rw [HU.out]; omega), by trivial⟩

theorem ext_list (s : ByteArray) (i j : Nat) : (s.extract i j).data.toList = (s.data.toList.drop i).take (j - i) := by
  rw [ByteArray.data_extract, Array.toList_extract, List.extract_eq_take_drop]
/-- What the first ones mean for the bytes of the text. -/
theorem ones_at (s : ByteArray) (a : Nat) (ha : a ≤ s.size) : ∃ q : Nat, q = ones (s.data.toList.drop a) 20 ∧ q ≤ 20 ∧ a + q ≤ s.size ∧ (∀ j (h : j < q) (h2 : a + j < s.size), s[a + j].toNat = 49) ∧ (q < 20 → ∀ h2 : a + q < s.size, s[a + q].toNat ≠ 49) := by
  have hl : (s.data.toList.drop a).length = s.size - a := by simp
  obtain ⟨h1, h2⟩ := ones_le (s.data.toList.drop a) 20
  rw [hl] at h2
  refine ⟨_, rfl, h1, by omega, fun j h hh => ?_, fun h hh => ?_⟩
  · have := ones_all (s.data.toList.drop a) 20 j h
    rw [List.getElem_drop] at this
    exact this
  · have := ones_stop (s.data.toList.drop a) 20 h (by omega)
    rw [List.getElem_drop] at this
    exact this
/-- The three answers. -/
def out (g : Got) (a : Nat) : Int × Int × Int :=
  match g with
  | .ok n len => (n, (a : Int) + len, 0)
  | .trunc => (0, 0, 9)
  | .format => (0, 0, 8)
theorem drop_isBit {s : ByteArray} (h : pack.AllBits s s.size) : ∀ b ∈ s.data.toList, isBit b := fun b hb => by
  obtain ⟨i, hi, rfl⟩ := List.mem_iff_getElem.1 hb
  have h1 := h i (by rw [← pack.len_eq]; exact hi)
  rw [List.getElem?_eq_getElem hi, Option.getD_some] at h1
  exact h1

theorem slice_at (s : ByteArray) (lo hi : Int) (fr to : Nat) (h1 : lo = fr) (h2 : hi = to) (h3 : fr ≤ to) (h4 : to ≤ s.size) (w : World) : (Instr.slice 9 (.string s) (some (.int .i64 lo)) (some (.int .i64 hi)) none).run Tryd.prog w = .ok (.string (s.extract fr to)) w := by
  have := run_slice_string (P := Tryd.prog) w 9 s .i64 .i64 lo hi Tryd.underlying9 (by omega) (by omega) (by omega)
  rw [this, h1, h2]
  simp
theorem part (s : ByteArray) (hb : ∀ b ∈ s.data.toList, isBit b) (fr n : Nat) (h : fr + n ≤ s.size) : ∃ t : ByteArray, s.extract fr (fr + n) = t ∧ t.size = n ∧ t.data.toList = (s.data.toList.drop fr).take n ∧ ∀ b ∈ t.data.toList, isBit b := by
  refine ⟨_, rfl, by simp; omega, ?_, fun b h => ?_⟩
  · rw [ext_list]; congr 1; omega
  · rw [ext_list] at h
    exact hb b (List.mem_of_mem_drop (List.mem_of_mem_take h))
theorem drop_val (s : ByteArray) (a d n : Nat) : (s.data.toList.drop (a + d)).take n = ((s.data.toList.drop a).drop d).take n := by rw [List.drop_drop]
theorem read_a2 {L : List UInt8} {k : Nat} (h : ones L 20 = 20) (h2 : L.length < 52) : read L k = .trunc := by rw [bits.read, if_pos h, if_pos h2]
theorem read_a1 {L : List UInt8} {k v : Nat} (h : ones L 20 = 20) (h2 : ¬ L.length < 52) (hv : val ((L.drop 20).take 32) = v) : read L k = if v / 2 ^ k < 20 ∨ ¬ (-1000000000 ≤ unfold' v ∧ unfold' v ≤ 1000000000) then .format else .ok (unfold' v) 52 := by rw [bits.read, if_pos h, if_neg h2, hv]
theorem read_b2 {L : List UInt8} {k q : Nat} (h : ones L 20 = q) (hq : ¬ q = 20) (h2 : L.length < q + 1 + k) : read L k = .trunc := by rw [bits.read, h, if_neg hq, if_pos h2]
theorem read_b1 {L : List UInt8} {k q v : Nat} (h : ones L 20 = q) (hq : ¬ q = 20) (h2 : ¬ L.length < q + 1 + k) (hv : val ((L.drop (q + 1)).take k) = v) : read L k = .ok (unfold' (q * 2 ^ k + v)) (q + 1 + k) := by rw [bits.read, h, if_neg hq, if_neg h2, hv]
theorem two_quo (u k : Nat) : (u : Int) / 2 ^ k = ((u / 2 ^ k : Nat) : Int) := by simp
theorem val_32 (l : List UInt8) (h : ∀ b ∈ l, isBit b) (hl : l.length ≤ 32) : val l ≤ 4294967296 := by
  have := val_le l h hl l.length (Nat.le_refl _)
  rwa [List.take_length] at this

set_option maxRecDepth 100000 in
set_option maxHeartbeats 4000000 in
theorem readS_calls (s : ByteArray) (hs : s.size ≤ 100000) (hb : ∀ b ∈ s.data.toList, isBit b) (a k : Nat) (ha : a ≤ s.size) (hk : k ≤ 12) (w : World) :
    Calls Tryd.prog 24 #[.string s, .int .i64 a, .int .i64 k] w fun e w' => e = .returned (.tuple #[.int .i64 (out (read (s.data.toList.drop a) k) a).1, .int .i64 (out (read (s.data.toList.drop a) k) a).2.1, .int .i64 (out (read (s.data.toList.drop a) k) a).2.2]) ∧ w = w' := by
  obtain ⟨q, hq, hq1, hq2, hq3, hq4⟩ := ones_at s a ha
  have HL := Lib.hid (show (s.data.toList.drop a).length = s.size - a by simp)
  have HQ := Lib.hid hq
  have H3 := Lib.hid hq3
  have H4 := Lib.hid hq4
  have HB := Lib.hid hb
  clear hq hq3 hq4 hb
  go_enter Tryd.func24, Tryd.ntmps24
  go_wp2
  go_loop [10] (fun i => ∃ j : Nat, j ≤ q ∧ i = .int .i64 (j : Int)) (fun i => q - (intOf i).toNat)
  case atStart => exact ⟨0, Nat.zero_le _, rfl⟩
  case round =>
    obtain ⟨j, hj, rfl⟩ := hrel
    by_cases hlt : j < q
    · have h20 : (j : Int) < 20 := by omega
      have hin : (a : Int) + (j : Int) < (s.size : Int) := by omega
      have h49 := H3.out j hlt (by omega)
      go_wp2
      go_round
      case rel => exact ⟨j + 1, by omega, by go_num⟩
      case measure => simp [intOf]; omega
    · obtain rfl : j = q := by omega
      clear hlt hj H3
      by_cases h20 : j = 20
      · have h20' : ((j : Int) < 20) = False := by simp; omega
        subst h20
        by_cases hr : a + 20 + 32 ≤ s.size
        · obtain ⟨t, et, zt, lt, bt⟩ := part s HB.out (a + 20) 32 hr
          have hsl := slice_at s ((a : Int) + 20) ((a : Int) + 20 + 32) (a + 20) (a + 20 + 32) (by omega) (by omega) (by omega) hr w
          rw [et] at hsl
          have HC := Lib.hid (value_calls t (by omega) bt w)
          have hv := val_32 t.data.toList bt (by rw [pack.len_eq]; omega)
          have HV := Lib.hid (show val (((s.data.toList.drop a).drop 20).take 32) = val t.data.toList by rw [lt, drop_val])
          clear et zt lt bt
          generalize val t.data.toList = v at *
          have HO := Lib.hid (read_a1 (k := k) HQ.out.symm (by rw [HL.out]; omega) HV.out)
          have HU := Lib.hid (unfoldS_calls v (by omega) w)
          have hvi : ¬ (s.size : Int) < (a : Int) + 20 + 32 := by omega
          go_wp2_with fail
          with_reducible refine HC.out.mono ?_
          rintro e w1 ⟨rfl, rfl⟩
          clear hsl HC
          have e1 := two_quo v k
          by_cases hlong : v / 2 ^ k < 20
          · have HO2 := Lib.hid (show out (read (s.data.toList.drop a) k) a = (0, 0, 8) by rw [HO.out, if_pos (.inl hlong)]; rfl)
            clear HO HV
            generalize v / 2 ^ k = p at *
            have hpi : (p : Int) < 20 := by omega
            go_wp2
            go_ret3
            exact ⟨by rw [HO2.out]; first | rfl | (simp; try omega), by trivial⟩
          · by_cases hin : -1000000000 ≤ unfold' v ∧ unfold' v ≤ 1000000000
            · have HO2 := Lib.hid (show out (read (s.data.toList.drop a) k) a = (unfold' v, (a : Int) + 52, 0) by rw [HO.out, if_neg (by simp [hlong, hin])]; rfl)
              have HRes := Lib.hid (res_calls (unfold' v) w true (by simp [hin]))
              have hin2 : -1000000000 ≤ unfold' v := hin.1
              have hin3 : unfold' v ≤ 1000000000 := hin.2
              clear HO HV hin
              generalize v / 2 ^ k = p at *
              generalize unfold' v = x at *
              have hpi : ¬ (p : Int) < 20 := by omega
              go_wp2_with fail
              with_reducible refine HU.out.mono ?_
              rintro e w1 ⟨rfl, rfl⟩
              go_wp2_with fail
              with_reducible refine HRes.out.mono ?_
              rintro e w1 ⟨rfl, rfl⟩
              go_wp2_with fail
              with_reducible refine HU.out.mono ?_
              rintro e w1 ⟨rfl, rfl⟩
              go_wp2
              go_ret3
              exact ⟨by rw [HO2.out]; first | rfl | (simp; try omega), by trivial⟩
            · have HO2 := Lib.hid (show out (read (s.data.toList.drop a) k) a = (0, 0, 8) by rw [HO.out, if_pos (.inr hin)]; rfl)
              have HRes := Lib.hid (res_calls (unfold' v) w false (by simp; omega))
              clear HO HV hin
              generalize v / 2 ^ k = p at *
              generalize unfold' v = x at *
              have hpi : ¬ (p : Int) < 20 := by omega
              go_wp2_with fail
              with_reducible refine HU.out.mono ?_
              rintro e w1 ⟨rfl, rfl⟩
              go_wp2_with fail
              with_reducible refine HRes.out.mono ?_
              rintro e w1 ⟨rfl, rfl⟩
              go_wp2
              go_ret3
              exact ⟨by rw [HO2.out]; first | rfl | (simp; try omega), by trivial⟩
        · have HO := Lib.hid (show out (read (s.data.toList.drop a) k) a = (0, 0, 9) by rw [read_a2 HQ.out.symm (by rw [HL.out]; omega)]; rfl)
          have hvi : (s.size : Int) < (a : Int) + 20 + 32 := by omega
          go_wp2
          go_ret3
          exact ⟨by rw [HO.out]; first | rfl | (simp; try omega), by trivial⟩
      · have h20' : ((j : Int) == 20) = false := by simp; omega
        have h20'' : (j : Int) < 20 := by omega
        by_cases hend : a + j < s.size
        · have hin : (a : Int) + (j : Int) < (s.size : Int) := by omega
          have h49 := H4.out (by omega) hend
          have h49b : ((s[a + j].toNat : Int) == 49) = false := by simp; omega
          clear H4
          by_cases hr : a + j + 1 + k ≤ s.size
          · obtain ⟨t, et, zt, lt, bt⟩ := part s HB.out (a + j + 1) k hr
            have hsl := slice_at s ((a : Int) + (j : Int) + 1) ((a : Int) + (j : Int) + 1 + (k : Int)) (a + j + 1) (a + j + 1 + k) (by omega) (by omega) (by omega) hr w
            rw [et] at hsl
            have HC := Lib.hid (value_calls t (by omega) bt w)
            have hv := val_32 t.data.toList bt (by rw [pack.len_eq]; omega)
            have HV := Lib.hid (show val (((s.data.toList.drop a).drop (j + 1)).take k) = val t.data.toList by rw [lt, ← drop_val]; rfl)
            clear et zt lt bt
            generalize val t.data.toList = v at *
            have HO := Lib.hid (show out (read (s.data.toList.drop a) k) a = (unfold' (j * 2 ^ k + v), (a : Int) + ((j + 1 + k : Nat) : Int), 0) by rw [read_b1 HQ.out.symm h20 (by rw [HL.out]; omega) HV.out]; rfl)
            have hp : j * 2 ^ k ≤ 81920 := by
              have h1 : 2 ^ k ≤ 2 ^ 12 := Nat.pow_le_pow_right (by decide) hk
              have h2 : 2 ^ 12 = 4096 := by decide
              have := Nat.mul_le_mul (show j ≤ 20 by omega) (show 2 ^ k ≤ 4096 by omega)
              omega
            have HP := Lib.hid (show (j : Int) * 2 ^ k = ((j * 2 ^ k : Nat) : Int) by simp)
            generalize j * 2 ^ k = p at *
            have HW := Lib.hid (show wrap64 (wrap64 ((j : Int) * 2 ^ k) + (v : Int)) = (p : Int) + (v : Int) by
              rw [HP.out]
              unfold wrap64
              omega)
            have HU : Hid (Calls Tryd.prog 38 #[.int .i64 ((p : Int) + (v : Int))] w fun e w' => e = .returned (.int .i64 (unfold' (p + v))) ∧ w = w') := Lib.hid (unfoldS_calls (p + v) (by omega) w)
            generalize unfold' (p + v) = x at *
            have hvi : ¬ (s.size : Int) < (a : Int) + (j : Int) + 1 + (k : Int) := by omega
            clear HV
            go_wp2_with fail
            with_reducible refine HC.out.mono ?_
            rintro e w1 ⟨rfl, rfl⟩
            clear hsl HC
            go_wp2_with fail
            rw [HW.out]
            with_reducible refine HU.out.mono ?_
            rintro e w1 ⟨rfl, rfl⟩
            go_wp2
            go_ret3
            exact ⟨by rw [HO.out]; first | rfl | (simp; try omega), by trivial⟩
          · have HO := Lib.hid (show out (read (s.data.toList.drop a) k) a = (0, 0, 9) by rw [read_b2 HQ.out.symm h20 (by rw [HL.out]; omega)]; rfl)
            have hvi : (s.size : Int) < (a : Int) + (j : Int) + 1 + (k : Int) := by omega
            go_wp2
            go_ret3
            exact ⟨by rw [HO.out]; first | rfl | (simp; try omega), by trivial⟩
        · have hin : ¬ (a : Int) + (j : Int) < (s.size : Int) := by omega
          have hin2 : (s.size : Int) < (a : Int) + (j : Int) + 1 + (k : Int) := by omega
          have HO := Lib.hid (show out (read (s.data.toList.drop a) k) a = (0, 0, 9) by rw [read_b2 HQ.out.symm h20 (by rw [HL.out]; omega)]; rfl)
          go_wp2
          go_ret3
          exact ⟨by rw [HO.out]; first | rfl | (simp; try omega), by trivial⟩
end Go.Proofs.YtjhndncmeedffaaDoor.readR
