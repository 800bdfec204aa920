/-
  Proved: for all arguments, the call of the law on Rice codes returns true and leaves its arguments as they were.
  Conditions: none beyond the row's own.
-/
import Derived.Test.YtjhndncmeedffaaDoorFnBits
import Derived.Test.YtjhndncmeedffaaDoorMReadRice
namespace Go.Proofs.YtjhndncmeedffaaDoor.fnRice
open Go.ChangeShapes Go.WideShapes Go.ChangeAt Go.RowKit Go.Joins
open Go.Proofs.YtjhndncmeedffaaDoor.core Go.Proofs.YtjhndncmeedffaaDoor.rows Go.Proofs.YtjhndncmeedffaaDoor.bits Go.Proofs.YtjhndncmeedffaaDoor.ints Go.Proofs.YtjhndncmeedffaaDoor.src Go.Proofs.YtjhndncmeedffaaDoor.readR Go.Proofs.YtjhndncmeedffaaDoor.fnBits
set_option linter.unusedVariables false
set_option linter.unusedSimpArgs false

/-- The codes of the first numbers, one behind the other. -/
def code (f : Nat → Int) (k : Nat) : Nat → List UInt8
  | 0 => []
  | n + 1 => code f k n ++ rice (f n - 2000) k
theorem code_bits (f : Nat → Int) (k : Nat) : ∀ n, ∀ b ∈ code f k n, isBit b := by
  intro n
  induction n with
  | zero => intro b hb; simp [code] at hb
  | succ n ih =>
    intro b hb
    rw [code] at hb
    rcases List.mem_append.1 hb with hb | hb
    · exact ih b hb
    · exact rice_bits _ _ b hb
theorem code_pre (f : Nat → Int) (k i : Nat) : ∀ n, i ≤ n → ∃ r, code f k n = code f k i ++ r := by
  intro n
  induction n with
  | zero => intro h; obtain rfl : i = 0 := by omega
            exact ⟨[], by simp⟩
  | succ n ih =>
    intro h
    by_cases e : i = n + 1
    · subst e; exact ⟨[], by simp⟩
    · obtain ⟨r, hr⟩ := ih (by omega)
      exact ⟨r ++ rice (f n - 2000) k, by rw [code, hr, List.append_assoc]⟩
theorem code_read (f : Nat → Int) (k i n : Nat) (hi : i < n) (hf : -1000000000 ≤ f i - 2000 ∧ f i - 2000 ≤ 1000000000) : read ((code f k n).drop (code f k i).length) k = .ok (f i - 2000) (rice (f i - 2000) k).length ∧ (code f k i).length + (rice (f i - 2000) k).length = (code f k (i + 1)).length ∧ (code f k (i + 1)).length ≤ (code f k n).length := by
  obtain ⟨r, hr⟩ := code_pre f k (i + 1) n hi
  refine ⟨?_, by rw [code, List.length_append], by rw [hr, List.length_append]; omega⟩
  rw [hr, code, List.append_assoc, List.drop_left' rfl]
  exact read_rice _ k hf r
theorem code_end (f : Nat → Int) (k n : Nat) : read ((code f k n).drop (code f k n).length) k = .trunc := by
  rw [List.drop_length]
  exact read_nil k
theorem arr_size (l : List UInt8) : (⟨l.toArray⟩ : ByteArray).size = l.length := by simp [ByteArray.size]
theorem cat (a b : List UInt8) : (⟨a.toArray⟩ : ByteArray) ++ ⟨b.toArray⟩ = ⟨(a ++ b).toArray⟩ := by
  apply ByteArray.ext
  simp
theorem out_ok {g : Got} {n : Int} {len : Nat} (a : Nat) (h : g = .ok n len) : out g a = (n, (a : Int) + (len : Int), 0) := by rw [h]; rfl
theorem out_trunc {g : Got} (a : Nat) (h : g = .trunc) : out g a = (0, 0, 9) := by rw [h]; rfl

set_option maxRecDepth 100000 in
set_option maxHeartbeats 8000000 in
theorem walk (A : Option Addr) (n c : Nat) (D : Option Addr) (m d : Nat) (w : World) (hn : n ≤ maxLen) (hm : m ≤ maxLen) (hA : BytesAt w w.heap.size A n) (hD : BytesAt w w.heap.size D m) :
    Calls Tryd.prog 5 #[.slice A n c, .slice D m d] w fun e w' => e = .returned (.bool true) ∧ Below w.heap.size w w' := by
  by_cases hl : 3000 < n ∨ 3000 < m
  · have H0 := Lib.hid (long_calls A D n c m d w hn hm true (by simp; exact hl))
    clear hn hm hA hD hl
    go_enter Tryd.func5, Tryd.ntmps5
    go_wp2_with fail
    with_reducible refine H0.out.mono ?_
    rintro e w1 ⟨rfl, rfl⟩
    go_wp2
    go_ret
    exact ⟨rfl, Below.refl _ _⟩
  · have H0 := Lib.hid (long_calls A D n c m d w hn hm false (by simp; omega))
    have hn2 : n ≤ 3000 := by omega
    have hm2 : m ≤ 3000 := by omega
    have H1 := Lib.hid (nums_calls A n c w hn2 hA)
    obtain ⟨k, hk0, hat0⟩ := at_calls D m d 0 13 w w.heap.size hm2 (by omega) (by omega) (by omega) hD
    have HK : Hid (∀ W, Below w.heap.size w W → Calls Tryd.prog 13 #[.slice D m d, .int .i64 0, .int .i64 13] W fun e w' => e = .returned (.int .i64 (k : Int)) ∧ W = w') := Lib.hid hat0
    have hk : k ≤ 12 := by omega
    clear hn hm hA hD hl hat0 hk0
    go_enter Tryd.func5, Tryd.ntmps5
    go_wp2_with fail
    with_reducible refine H0.out.mono ?_
    rintro e w1 ⟨rfl, rfl⟩
    go_wp2_with fail
    with_reducible refine H1.out.mono ?_
    rintro e w1 ⟨M, G, C, f, hM, hf, rfl, ho, hb⟩
    have HF := Lib.hid hf
    have HV := Lib.hid (row_view ho (fun i hi => by have := hf i hi; unfold inI64; omega))
    have HB := Lib.hid hb
    have HK' := Lib.hid (HK.out w1 hb)
    clear hf ho hb H0 H1 HK
    go_wp2_with fail
    with_reducible refine HK'.out.mono ?_
    rintro e w2 ⟨rfl, rfl⟩
    clear HK'
    go_wp2
    go_loopw [7, 8] (fun s i w' => ∃ (j : Nat) (S : ByteArray), j ≤ M ∧ S.size ≤ 52 * j ∧ i = .int .i64 (j : Int) ∧ s = .string S ∧ Hid (S = ⟨(code f k j).toArray⟩) ∧ Hid (Below w1.heap.size w1 w')) (fun _ i _ => M - (intOf i).toNat)
    case atStart => exact ⟨0, ⟨#[]⟩, Nat.zero_le _, Nat.zero_le _, rfl, rfl, Lib.hid rfl, Lib.hid (Below.refl _ _)⟩
    case round =>
      obtain ⟨j, S, hj, hS, rfl, rfl, HS, HBr⟩ := hrel
      by_cases hlt : j < M
      · obtain ⟨b, o, e, hb, hc, -⟩ := (HV.out.kept HBr.out) j hlt
        cases e
        rw [Nat.zero_add] at hc
        obtain ⟨hf1, hf2⟩ := HF.out j hlt
        have hC := wRiceBits.impl_yes (f j - 2000) k (by omega) hk wr
        have hl := rice_le (f j - 2000) k hk
        rw [← arr_size] at hl
        have HE := Lib.hid (show (⟨(code f k j).toArray⟩ : ByteArray) ++ ⟨(rice (f j - 2000) k).toArray⟩ = ⟨(code f k (j + 1)).toArray⟩ by rw [cat]; rfl)
        rw [← HS.out] at HE
        generalize (⟨(rice (f j - 2000) k).toArray⟩ : ByteArray) = R at *
        have HC := Lib.hid hC
        generalize f j = y at *
        have hsz : (S ++ R).size = S.size + R.size := by simp
        have hsz2 : (S ++ R).size ≤ 52 * (j + 1) := by omega
        clear hC HS hsz
        go_wp2_with fail
        with_reducible refine HC.out.mono ?_
        rintro e w3 ⟨rfl, hb3⟩
        have HB3 := Lib.hid (HBr.out.trans (hb3.mono HBr.out.size))
        have hl2 : ¬ (100 : Int) < (R.size : Int) := by omega
        clear hb3 HBr hb hc HC
        go_wp2
        go_roundw
        case rel => exact ⟨j + 1, S ++ R, by omega, hsz2, by go_num, rfl, HE, HB3⟩
        case measure => simp [intOf]; omega
      · obtain rfl : j = M := by omega
        have hsl : (code f k j).length = S.size := by rw [HS.out, arr_size]
        have hdl : S.data.toList = code f k j := by rw [HS.out]
        have hbits : S.size ≤ 100000 ∧ pack.AllBits S S.size := ⟨by omega, bits_all (by rw [hdl]; exact code_bits f k j)⟩
        have HR : Hid (∀ (a : Nat), a ≤ S.size → ∀ W, Calls Tryd.prog 10 #[.string S, .int .i64 a, .int .i64 k] W fun e w' => e = .returned (.tuple #[.int .i64 (out (read ((code f k j).drop a) k) a).1, .int .i64 (out (read ((code f k j).drop a) k) a).2.1, .int .i64 (out (read ((code f k j).drop a) k) a).2.2]) ∧ Below W.heap.size W w') := Lib.hid fun a ha W => by
          have h := impl_yes S (by omega) hbits a k ha hk W
          rwa [hdl] at h
        have HSL := Lib.hid hsl
        have hS2 : S.size ≤ 1000 := by omega
        clear hsl hdl hbits HS hlt hj hS
        obtain ⟨M, rfl⟩ : ∃ M, M = j := ⟨_, rfl⟩
        obtain ⟨wa, rfl⟩ : ∃ wa, wa = wr := ⟨_, rfl⟩
        go_wp2
        go_loopw [11, 12] (fun a i w' => ∃ (j p : Nat), j ≤ M ∧ p ≤ S.size ∧ i = .int .i64 (j : Int) ∧ a = .int .i64 (p : Int) ∧ Hid (p = (code f k j).length) ∧ Hid (Below w1.heap.size w1 w')) (fun _ i _ => M - (intOf i).toNat)
        case atStart => exact ⟨0, 0, Nat.zero_le _, Nat.zero_le _, rfl, rfl, Lib.hid rfl, HBr⟩
        case round =>
          obtain ⟨j, p, hj, hp, rfl, rfl, HP, HBs⟩ := hrel
          by_cases hlt : j < M
          · obtain ⟨hf1, hf2⟩ := HF.out j hlt
            obtain ⟨r1, r2, r3⟩ := code_read f k j M hlt (by omega)
            rw [← HP.out] at r1 r2
            rw [HSL.out] at r3
            have hpos := rice_pos (f j - 2000) k
            have hC := HR.out p hp wr
            rw [out_ok p r1] at hC
            generalize (rice (f j - 2000) k).length = len at *
            have HN := Lib.hid r2
            have HVj := Lib.hid (fun W (h : Below w1.heap.size w1 W) => (HV.out.kept h) j hlt)
            generalize f j = y at *
            have HC : Hid (Calls Tryd.prog 10 #[.string S, .int .i64 p, .int .i64 k] wr fun e w' => e = .returned (.tuple #[.int .i64 (y - 2000), .int .i64 ((p : Int) + (len : Int)), .int .i64 0]) ∧ Below wr.heap.size wr w') := Lib.hid hC
            have q1 : p + len ≤ S.size := by omega
            have q2 : ¬ (p : Int) + (len : Int) ≤ (p : Int) := by omega
            have q3 : ¬ (S.size : Int) < (p : Int) + (len : Int) := by omega
            clear hC r1 r2 r3
            go_wp2_with fail
            with_reducible refine HC.out.mono ?_
            rintro e w3 ⟨rfl, hb3⟩
            have HB3 := Lib.hid (HBs.out.trans (hb3.mono HBs.out.size))
            obtain ⟨b, o, e, hb, hc, -⟩ := HVj.out w3 HB3.out
            cases e
            rw [Nat.zero_add] at hc
            clear hb3 HBs HC HVj
            go_wp2
            go_roundw
            case rel => exact ⟨j + 1, p + len, by omega, q1, by go_num, by go_num, HN, HB3⟩
            case measure => simp [intOf]; omega
          · obtain rfl : j = M := by omega
            have hpS : p = S.size := by rw [HP.out, HSL.out]
            subst hpS
            have hC := HR.out S.size (Nat.le_refl _) wr
            rw [out_trunc S.size (by rw [← HSL.out]; exact code_end f k j)] at hC
            have HC : Hid (Calls Tryd.prog 10 #[.string S, .int .i64 (S.size : Int), .int .i64 k] wr fun e w' => e = .returned (.tuple #[.int .i64 0, .int .i64 0, .int .i64 9]) ∧ Below wr.heap.size wr w') := Lib.hid hC
            clear hC hlt hj HP HR
            go_wp2_with fail
            with_reducible refine HC.out.mono ?_
            rintro e w3 ⟨rfl, hb3⟩
            have HB3 := Lib.hid (HB.out.trans ((HBs.out.trans (hb3.mono HBs.out.size)).mono HB.out.size))
            clear hb3 HBs HC
            go_wp2
            go_ret
            exact ⟨by simp, HB3.out⟩
end Go.Proofs.YtjhndncmeedffaaDoor.fnRice
