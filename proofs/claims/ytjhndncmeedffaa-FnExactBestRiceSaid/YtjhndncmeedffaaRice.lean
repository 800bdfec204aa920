/-
  Proved: the document's function that writes a Rice code.
  Conditions: none.
-/
import Derived.Test.YtjhndncmeedffaaNum
import Derived.Deep.RegionWith
namespace Go.Proofs.Ytjhndncmeedffaa.riceS
open Go.ChangeShapes Go.WideShapes Go.ChangeAt Go.RowKit Go.Joins
open Go.Proofs.Ytjhndncmeedffaa.core Go.Proofs.Ytjhndncmeedffaa.rows Go.Proofs.Ytjhndncmeedffaa.bits Go.Proofs.Ytjhndncmeedffaa.numS
set_option linter.unusedVariables false
set_option linter.unusedSimpArgs false

theorem fold_eq (n : Int) : (n < 0 → ((fold n : Nat) : Int) = -2 * n - 1) ∧ (¬ n < 0 → ((fold n : Nat) : Int) = 2 * n) := by
  unfold fold
  constructor <;> intro h
  · rw [if_pos h]; omega
  · rw [if_neg h]; omega
theorem fold_calls (n : Int) (h : -1000000000 ≤ n ∧ n ≤ 1000000000) (w : World) :
    Calls Try.prog 55 #[.int .i64 n] w fun e w' => e = .returned (.int .i64 (fold n : Nat)) ∧ w = w' := by
  obtain ⟨h1, h2⟩ := h
  obtain ⟨f1, f2⟩ := fold_eq n
  by_cases hn : n < 0
  · have F := Lib.hid (f1 hn)
    clear f1 f2
    go_enter Try.func55, Try.ntmps55
    go_wp2
    go_ret
    exact ⟨ret_int F.out.symm, by trivial⟩
  · have F := Lib.hid (f2 hn)
    clear f1 f2
    go_enter Try.func55, Try.ntmps55
    go_wp2
    go_ret
    exact ⟨ret_int F.out.symm, by trivial⟩
theorem cat (a b : List UInt8) : (⟨a.toArray⟩ : ByteArray) ++ ⟨b.toArray⟩ = ⟨(a ++ b).toArray⟩ := by
  apply ByteArray.ext
  simp
theorem rep_snoc (m : Nat) : List.replicate (m + 1) (49 : UInt8) = List.replicate m 49 ++ [(49 : Nat).toUInt8] := by
  rw [List.replicate_succ']; rfl
theorem rice_def (n : Int) (k : Nat) : rice n k = if fold n / 2 ^ k < 20 then List.replicate (fold n / 2 ^ k) 49 ++ 48 :: num (fold n % 2 ^ k) k else List.replicate 20 49 ++ num (fold n) 32 := rfl
theorem fin1 (m : Nat) (l : List UInt8) : (⟨Array.replicate m 49⟩ : ByteArray) ++ ⟨#[48]⟩ ++ ⟨l.toArray⟩ = ⟨(List.replicate m 49 ++ 48 :: l).toArray⟩ := by
  apply ByteArray.ext
  simp
theorem fin2 (l : List UInt8) : (⟨Array.replicate 20 49⟩ : ByteArray) ++ ⟨l.toArray⟩ = ⟨(List.replicate 20 49 ++ l).toArray⟩ := by
  apply ByteArray.ext
  rw [← cat]
  rfl
/-- A quotient's facts. -/
theorem quo (u k : Nat) : (u : Int) / 2 ^ k = ((u / 2 ^ k : Nat) : Int) := by simp
theorem rest_lt (u k : Nat) (hk : k ≤ 12) : u % 2 ^ k ≤ 4095 := by
  have h1 : u % 2 ^ k < 2 ^ k := Nat.mod_lt _ (Nat.two_pow_pos k)
  have h2 : 2 ^ k ≤ 2 ^ 12 := Nat.pow_le_pow_right (by decide) hk
  have : 2 ^ 12 = 4096 := by decide
  omega
theorem rest_eq (u k : Nat) : (u : Int) - ((u / 2 ^ k : Nat) : Int) * 2 ^ k = ((u % 2 ^ k : Nat) : Int) := by
  have h := Nat.div_add_mod u (2 ^ k)
  have e : (2 : Int) ^ k = ((2 ^ k : Nat) : Int) := by simp
  rw [e, ← Int.natCast_mul, Nat.mul_comm]
  omega

set_option maxRecDepth 100000 in
set_option maxHeartbeats 4000000 in
theorem rice_calls (n : Int) (k : Nat) (h : -1000000000 ≤ n ∧ n ≤ 1000000000) (hk : k ≤ 12) (w : World) :
    Calls Try.prog 39 #[.int .i64 n, .int .i64 k] w fun e w' => e = .returned (.string ⟨(rice n k).toArray⟩) ∧ Below w.heap.size w w' := by
  obtain ⟨i0, hi0, hz0, hz1, hz2⟩ := info_get infoByte
  have hu : fold n ≤ 2000000000 := fold_le n 1000000000 h
  have HF := Lib.hid (fold_calls n h w)
  have HR := Lib.hid (rice_def n k)
  generalize hl : rice n k = l at *
  clear hl h
  generalize fold n = u at *
  have HQ := Lib.hid (quo u k)
  have hq : u / 2 ^ k ≤ u := Nat.div_le_self _ _
  have HE := Lib.hid (rest_eq u k)
  have hr := rest_lt u k hk
  generalize u % 2 ^ k = r at *
  generalize u / 2 ^ k = q at *
  have hq2 : q ≤ 2000000000 := by omega
  clear hq
  have e1 := HQ.out
  go_enter Try.func39, Try.ntmps39
  go_wp2_with fail
  with_reducible refine HF.out.mono ?_
  rintro e w1 ⟨rfl, rfl⟩
  go_wp2
  clear e1
  go_loopw [7, 8] (fun o i w' => ∃ (m gb c : Nat), m ≤ q ∧ m ≤ 20 ∧ i = .int .i64 (m : Int) ∧ o = .slice (some ⟨gb, 0, none⟩) m c ∧ Hid (w'.ownsRow w.heap.size 5 1 (.slice (some ⟨gb, 0, none⟩) m c) m (Lib.byteCells (List.replicate m 49))) ∧ Hid (Below w.heap.size w w')) (fun _ i _ => 20 - (intOf i).toNat)
  case atStart => exact ⟨0, _, _, Nat.zero_le _, by omega, rfl, rfl, Lib.hid (by simpa [Lib.byteCells] using empty_row w 5), Lib.hid (below_alloc1 _ _)⟩
  case round =>
    obtain ⟨m, gb, c, hm1, hm2, rfl, rfl, HO, HB⟩ := hrel
    by_cases hgo : m < q ∧ m < 20
    · obtain ⟨g1, g2⟩ := hgo
      have d1 : (m : Int) < (q : Int) := by omega
      have d2 : decide ((m : Int) < 20) = true := decide_eq_true (by omega)
      go_wp2_with (first
        | (at_builtin
           have z0 := ownsRow_kept HO.out (below_alloc1 wr (.cells #[.int .u8 49] 5))
           have z2 : ∀ u ∈ [Value.int .u8 49], u.oneCell' = true := (by simp [Value.oneCell'])
           have z3 : m + 1 ≤ maxLen := (by simp only [maxLen]; omega)
           have z4 : (m + 1) * 1 ≤ 140737488355328 := (by omega)
           have z5 : w.heap.size ≤ (wr.alloc (.cells #[.int .u8 49] 5)).heap.size := (Nat.le_trans HB.out.size (by simp))
           refine wpList_append_lies (wr.alloc (.cells #[.int .u8 49] 5)) rfl _ _ 37 rfl w.heap.size 5 i0 (.int .u8 0) 1 1 Try.underlying37 hi0 hz0 hz1 hz2 rfl (by decide) (.slice (some ⟨gb, 0, none⟩) m c) m _ rfl z0 ⟨wr.heap.size, 0, none⟩ 1 1 [.int .u8 49] rfl rfl one_new z2 (by decide) z3 z4 z5 _ rfl ?_
           intro g3 cap3 w3 hown hgr hat hlt3
           have HO3 := Lib.hid (row_snoc (a := 49) (by decide) hown)
           have HB3 := Lib.hid (HB.out.trans ((under HO.out HB.out.size hgr)))
           clear hown hgr hat z0 z2 z3 z4 z5 HO HB))
      go_roundw
      case rel => exact ⟨m + 1, g3, cap3, by omega, by omega, by go_num, rfl, Lib.hid (by rw [rep_snoc]; exact HO3.out), HB3⟩
      case measure => simp [intOf]; omega
    · have HS0 := Lib.hid (fun (W : World) (hb : Below wr.heap.size wr W) => row_string (ownsRow_kept HO.out hb) (by simp))
      have hs0 := HS0.out wr.drew (Below.refl _ _).drew
      by_cases h20 : q < 20
      · obtain rfl : m = q := by omega
        have HN := Lib.hid (fun W : World => num_calls r k (by omega) (by omega) W)
        have HR2 := Lib.hid (HR.out.trans (if_pos h20))
        have HE2 := Lib.hid (show wrap64 ((u : Int) - wrap64 ((m : Int) * 2 ^ min k 64)) = (r : Int) by
          have h := HE.out
          rw [show min k 64 = k by omega]
          generalize (m : Int) * 2 ^ k = y at *
          unfold wrap64
          omega)
        have HE3 := Lib.hid (show IntKind.i64.wrap ((u : Int) - IntKind.i64.wrap ((m : Int) * 2 ^ min (IntKind.u64.wrap (k : Int)).toNat 64)) = (r : Int) by
          have e : IntKind.u64.wrap (k : Int) = (k : Int) := IntWalk.u64_in _ (by omega)
          rw [e, IntWalk.i64_left, IntWalk.i64_left]
          exact HE2.out)
        have hln : (num r k).length ≤ 12 := by rw [num_length]; exact hk
        clear HO hgo HR HE
        go_wp2
        go_region_with (go_at_call 37; (first | rw [HE2.out] | rw [HE3.out]); refine (HN.out _).mono ?_; rintro e w3 ⟨rfl, hb⟩; have hs1 := HS0.out w3 ((Below.refl _ _).drew.trans hb); have HB3 := Lib.hid (HB.out.trans ((Below.refl _ _).drew.trans hb |>.mono HB.out.size)); clear hb)
        all_goals
          go_wp2
          go_ret
          exact ⟨by rw [HR2.out, ← fin1]; rfl, HB3.out⟩
      · obtain rfl : m = 20 := by omega
        have d20 : (20 : Int) ≤ (q : Int) := by omega
        have HN := Lib.hid (fun W : World => num_calls u 32 (by omega) (by omega) W)
        have HR2 := Lib.hid (HR.out.trans (if_neg h20))
        have hln : (num u 32).length ≤ 32 := by rw [num_length]; omega
        clear HO hgo HR HE h20
        have D : decide ((20 : Int) < (q : Int)) = true ∨ decide ((20 : Int) < (q : Int)) = false := by cases decide ((20 : Int) < (q : Int)) <;> simp
        rcases D with D | D
        all_goals
          go_wp2
          go_region_with (go_at_call 37; refine (HN.out _).mono ?_; rintro e w3 ⟨rfl, hb⟩; have hs1 := HS0.out w3 ((Below.refl _ _).drew.trans hb); have HB3 := Lib.hid (HB.out.trans ((Below.refl _ _).drew.trans hb |>.mono HB.out.size)); clear hb)
          all_goals
            go_wp2
            go_ret
            exact ⟨by rw [HR2.out, ← fin2]; rfl, HB3.out⟩
end Go.Proofs.Ytjhndncmeedffaa.riceS
