/-
  Proved: what both functions that ask whether a text is a label return.
  Conditions: none.
-/
import Derived.Test.YtofgdgdmmlgmnaaCore
import Derived.WalkKit
import Derived.ProofKit
import Derived.Lib.Bytealg
import Derived.BigCall
import Derived.BigGuard
namespace Go.Proofs.Ytofgdgdmmlgmnaa.lab
open Go.ChangeShapes Go.WideShapes Go.ChangeAt Go.RowKit Go.Joins
open Go.Proofs.Ytofgdgdmmlgmnaa.core
set_option linter.unusedVariables false
set_option linter.unusedSimpArgs false
/-- The byte is a label. -/
def labN (n : Nat) : Bool := decide ((97 ≤ n ∧ n ≤ 122) ∨ (48 ≤ n ∧ n ≤ 57) ∨ n = 43 ∨ n = 45 ∨ n = 42 ∨ n = 47 ∨ n = 61 ∨ n = 40 ∨ n = 41 ∨ n = 46 ∨ n = 44)
def labB (s : ByteArray) : Bool := if h : s.size = 1 then labN (s[0]'(by omega)).toNat else false
theorem labB_no {s : ByteArray} (h : ¬ s.size = 1) : labB s = false := dif_neg h
theorem labB_one {s : ByteArray} (h : s.size = 1) : labB s = labN (s[0]'(by omega)).toNat := dif_pos h
theorem labB_size {s : ByteArray} (h : labB s = true) : s.size = 1 := by
  by_cases h' : s.size = 1
  · exact h'
  · rw [labB_no h'] at h; cases h
theorem smallS (n : Nat) (w : World) : Calls Try.prog 113 #[.int .u8 (n : Int)] w fun e w' => e = .returned (.bool (decide (97 ≤ n ∧ n ≤ 122))) ∧ w = w' := by
  go_enter Try.func113, Try.ntmps113
  go_wp2
  all_goals go_ret
  all_goals exact ⟨congrArg (fun b => Ending.returned (Value.bool b)) (by first | rfl | (rw [Bool.eq_iff_iff]; simp; try omega)), rfl⟩
theorem labelS (n : Nat) (w : World) : Calls Try.prog 98 #[.int .u8 (n : Int)] w fun e w' => e = .returned (.bool (labN n)) ∧ w = w' := by
  by_cases h1 : n = 43 ∨ n = 45 ∨ n = 42 ∨ n = 47 ∨ n = 61 ∨ n = 40 ∨ n = 41 ∨ n = 46 ∨ n = 44
  · have HL := Lib.hid (show labN n = true by unfold labN; exact decide_eq_true (by omega))
    rw [HL.out]
    rcases h1 with rfl | rfl | rfl | rfl | rfl | rfl | rfl | rfl | rfl
    all_goals
      go_enter Try.func98, Try.ntmps98
      go_wp2
      go_ret
      exact ⟨rfl, rfl⟩
  · have e1 : ((n : Int) == 43) = false := by rw [beq_eq_false_iff_ne]; omega
    have e2 : ((n : Int) == 45) = false := by rw [beq_eq_false_iff_ne]; omega
    have e3 : ((n : Int) == 42) = false := by rw [beq_eq_false_iff_ne]; omega
    have e4 : ((n : Int) == 47) = false := by rw [beq_eq_false_iff_ne]; omega
    have e5 : ((n : Int) == 61) = false := by rw [beq_eq_false_iff_ne]; omega
    have e6 : ((n : Int) == 40) = false := by rw [beq_eq_false_iff_ne]; omega
    have e7 : ((n : Int) == 41) = false := by rw [beq_eq_false_iff_ne]; omega
    have e8 : ((n : Int) == 46) = false := by rw [beq_eq_false_iff_ne]; omega
    have e9 : ((n : Int) == 44) = false := by rw [beq_eq_false_iff_ne]; omega
    have HS := Lib.hid (fun W => smallS n W)
    have hund : undef = Value.tuple #[] := rfl
    by_cases h2 : 97 ≤ n ∧ n ≤ 122
    · have HL := Lib.hid (show labN n = true by unfold labN; exact decide_eq_true (by omega))
      rw [HL.out]
      rw [decide_eq_true h2] at HS
      clear h2 h1
      go_enter Try.func98, Try.ntmps98
      go_wp2_with fail
      refine (HS.out _).mono ?_
      rintro e _ ⟨rfl, rfl⟩
      go_wp2
      go_ret
      exact ⟨rfl, rfl⟩
    · have HL := Lib.hid (show labN n = decide (48 ≤ n ∧ n ≤ 57) by unfold labN; rw [Bool.eq_iff_iff]; simp only [decide_eq_true_eq]; omega)
      rw [HL.out]
      rw [decide_eq_false h2] at HS
      clear h2 h1
      go_enter Try.func98, Try.ntmps98
      go_wp2_with fail
      refine (HS.out _).mono ?_
      rintro e _ ⟨rfl, rfl⟩
      go_wp2
      all_goals go_ret
      all_goals exact ⟨congrArg (fun b => Ending.returned (Value.bool b)) (by first | rfl | (rw [Bool.eq_iff_iff]; simp; try omega)), rfl⟩
theorem isLabS (s : ByteArray) (w : World) (hs : s.size ≤ maxLen) : Calls Try.prog 74 #[.string s] w fun e w' => e = .returned (.bool (labB s)) ∧ w = w' := by
  unfold maxLen at hs
  have hund : undef = Value.tuple #[] := rfl
  by_cases h1 : s.size = 1
  · have HS := Lib.hid (fun W => labelS (s[0]'(by omega)).toNat W)
    have h1' : ((s.size : Int) == 1) = true := by rw [h1]; rfl
    have h2 : 0 < s.size := by omega
    rw [labB_one h1]
    generalize hl : labN (s[0]'(by omega)).toNat = r at *
    go_enter Try.func74, Try.ntmps74
    go_wp2_with fail
    refine (HS.out _).mono ?_
    rintro e _ ⟨rfl, rfl⟩
    go_wp2
    go_ret
    exact ⟨rfl, rfl⟩
  · have h1' : ((s.size : Int) == 1) = false := by rw [beq_eq_false_iff_ne]; omega
    rw [labB_no h1]
    go_enter Try.func74, Try.ntmps74
    go_wp2
    go_ret
    exact ⟨rfl, rfl⟩
theorem smallI (n : Nat) (w : World) : Calls Try.prog 99 #[.int .i32 (n : Int)] w fun e w' => e = .returned (.bool (decide (97 ≤ n ∧ n ≤ 122))) ∧ w = w' := by
  go_enter Try.func99, Try.ntmps99
  go_wp2
  all_goals go_ret
  all_goals exact ⟨congrArg (fun b => Ending.returned (Value.bool b)) (by first | rfl | (rw [Bool.eq_iff_iff]; simp; try omega)), rfl⟩
theorem digitI (n : Nat) (w : World) : Calls Try.prog 100 #[.int .i32 (n : Int)] w fun e w' => e = .returned (.bool (decide (48 ≤ n ∧ n ≤ 57))) ∧ w = w' := by
  go_enter Try.func100, Try.ntmps100
  go_wp2
  all_goals go_ret
  all_goals exact ⟨congrArg (fun b => Ending.returned (Value.bool b)) (by first | rfl | (rw [Bool.eq_iff_iff]; simp; try omega)), rfl⟩
/-- The nine signs. -/
def sgn : ByteArray := ⟨#[43, 45, 42, 47, 61, 40, 41, 46, 44]⟩
theorem sgn_in (c : UInt8) : decide ((0 : Int) ≤ Lib.indexByte sgn.data.toList c) = decide (c.toNat = 43 ∨ c.toNat = 45 ∨ c.toNat = 42 ∨ c.toNat = 47 ∨ c.toNat = 61 ∨ c.toNat = 40 ∨ c.toNat = 41 ∨ c.toNat = 46 ∨ c.toNat = 44) := by
  have key : ∀ n : Fin 256, decide ((0 : Int) ≤ Lib.indexByte sgn.data.toList (UInt8.ofNat n.val)) = decide ((UInt8.ofNat n.val).toNat = 43 ∨ (UInt8.ofNat n.val).toNat = 45 ∨ (UInt8.ofNat n.val).toNat = 42 ∨ (UInt8.ofNat n.val).toNat = 47 ∨ (UInt8.ofNat n.val).toNat = 61 ∨ (UInt8.ofNat n.val).toNat = 40 ∨ (UInt8.ofNat n.val).toNat = 41 ∨ (UInt8.ofNat n.val).toNat = 46 ∨ (UInt8.ofNat n.val).toNat = 44) := by decide +kernel
  have h := key ⟨c.toNat, c.toNat_lt⟩
  simp only [UInt8.ofNat_toNat] at h
  exact h
set_option maxRecDepth 100000 in
set_option maxHeartbeats 2000000 in
/-- strings.Contains of the signs at a text of one byte. -/
theorem contI (s : ByteArray) (h1 : s.size = 1) (w : World) : Calls Try.prog 101 #[.string sgn, .string s] w fun e w' => e = .returned (.bool (decide ((0 : Int) ≤ Lib.indexByte sgn.data.toList (s[0]'(by omega))))) ∧ w = w' := by
  have h2 : 0 < s.size := by omega
  have h1' : ((s.size : Int) == 1) = true := by rw [h1]; rfl
  have h0' : ((s.size : Int) == 0) = false := by rw [h1]; rfl
  have hne : (s.toList == sgn.toList) = false := by
    rw [beq_eq_false_iff_ne]
    intro e
    have h3 := congrArg List.length e
    have e1 : s.toList.length = s.size := by rw [ByteArray.toList_eq]; simp
    have e2 : sgn.toList.length = 9 := by rw [ByteArray.toList_eq]; rfl
    omega
  have hb := fun W => Lib.run_indexByteString (P := Try.prog) sgn ((s[0]'(by omega)).toNat : Int) W
  have e8 : (((s[0]'(by omega)).toNat : Int)).toNat.toUInt8 = s[0]'(by omega) := by simp
  rw [e8] at hb
  generalize Lib.indexByte sgn.data.toList (s[0]'(by omega)) = r at *
  have HI : ∀ W, Calls Try.prog 114 #[.string sgn, .string s] W fun e w' => e = .returned (.int .i64 r) ∧ W = w' := fun W => by
    have HX : ∀ W, Calls Try.prog 129 #[.string sgn, .string s] W fun e w' => e = .returned (.int .i64 r) ∧ W = w' := fun W => by
      go_enter Try.func129, Try.ntmps129
      go_wp2
      rw [run_callFunc_extern Try.func148 (by kernel_rfl) (by kernel_rfl) (by kernel_rfl) (e := Extern.BytealgIndexByte.indexByte) (by kernel_rfl), hb]
      simp only [Result.andThen]
      rw [Oper.upon_value]
      go_wp2
      go_ret
      exact ⟨rfl, rfl⟩
    go_enter Try.func114, Try.ntmps114
    go_wp2_with fail
    refine (HX _).mono ?_
    rintro e _ ⟨rfl, rfl⟩
    go_wp2
    go_ret
    exact ⟨rfl, rfl⟩
  go_enter Try.func101, Try.ntmps101
  go_wp2_with fail
  refine (HI _).mono ?_
  rintro e _ ⟨rfl, rfl⟩
  go_wp2
  go_ret
  exact ⟨congrArg (fun b => Ending.returned (Value.bool b)) (by rw [Bool.eq_iff_iff]; try simp), rfl⟩
set_option maxRecDepth 100000 in
set_option maxHeartbeats 2000000 in
theorem isLabI (s : ByteArray) (w : World) (hs : s.size ≤ maxLen) : Calls Try.prog 77 #[.string s] w fun e w' => e = .returned (.bool (labB s)) ∧ w = w' := by
  unfold maxLen at hs
  have hund : undef = Value.tuple #[] := rfl
  by_cases h1 : s.size = 1
  · have HC := Lib.hid (fun W => contI s h1 W)
    have h1' : ((s.size : Int) != 1) = false := by rw [h1]; rfl
    have h2 : 0 < s.size := by omega
    have HS := Lib.hid (fun W => smallI (s[0]'(by omega)).toNat W)
    have HD := Lib.hid (fun W => digitI (s[0]'(by omega)).toNat W)
    have h255 : (s[0]'(by omega)).toNat < 256 := (s[0]'(by omega)).toNat_lt
    rw [sgn_in] at HC
    have HW : IntKind.i32.wrap ((s[0]'(by omega)).toNat : Int) = ((s[0]'(by omega)).toNat : Int) := by simp [IntKind.wrap, IntKind.bits, IntKind.signed]; omega
    have HL := Lib.hid (labB_one h1)
    generalize hn : (s[0]'(by omega)).toNat = n at *
    by_cases c1 : 97 ≤ n ∧ n ≤ 122
    · rw [decide_eq_true c1] at HS
      have HL2 := Lib.hid (show labB s = true by rw [HL.out]; exact decide_eq_true (by omega))
      rw [HL2.out]
      clear HL c1
      go_enter Try.func77, Try.ntmps77
      go_wp2_with fail
      refine (HS.out _).mono ?_
      rintro e _ ⟨rfl, rfl⟩
      go_wp2
      go_ret
      exact ⟨rfl, rfl⟩
    · rw [decide_eq_false c1] at HS
      by_cases c2 : 48 ≤ n ∧ n ≤ 57
      · rw [decide_eq_true c2] at HD
        have HL2 := Lib.hid (show labB s = true by rw [HL.out]; exact decide_eq_true (by omega))
        rw [HL2.out]
        clear HL c1 c2
        go_enter Try.func77, Try.ntmps77
        go_wp2_with fail
        refine (HS.out _).mono ?_
        rintro e _ ⟨rfl, rfl⟩
        go_wp2_with fail
        refine (HD.out _).mono ?_
        rintro e _ ⟨rfl, rfl⟩
        go_wp2
        go_ret
        exact ⟨rfl, rfl⟩
      · rw [decide_eq_false c2] at HD
        have HL2 := Lib.hid (show labB s = decide (n = 43 ∨ n = 45 ∨ n = 42 ∨ n = 47 ∨ n = 61 ∨ n = 40 ∨ n = 41 ∨ n = 46 ∨ n = 44) by rw [HL.out]; unfold labN; rw [Bool.eq_iff_iff]; simp only [decide_eq_true_eq]; omega)
        rw [HL2.out]
        clear HL c1 c2
        generalize decide (n = 43 ∨ n = 45 ∨ n = 42 ∨ n = 47 ∨ n = 61 ∨ n = 40 ∨ n = 41 ∨ n = 46 ∨ n = 44) = r at *
        go_enter Try.func77, Try.ntmps77
        go_wp2_with fail
        refine (HS.out _).mono ?_
        rintro e _ ⟨rfl, rfl⟩
        go_wp2_with fail
        refine (HD.out _).mono ?_
        rintro e _ ⟨rfl, rfl⟩
        go_wp2_with fail
        refine (HC.out _).mono ?_
        rintro e _ ⟨rfl, rfl⟩
        go_wp2
        go_ret
        exact ⟨rfl, rfl⟩
  · have h1' : ((s.size : Int) != 1) = true := by simp; omega
    rw [labB_no h1]
    go_enter Try.func77, Try.ntmps77
    go_wp2
    go_ret
    exact ⟨rfl, rfl⟩
end Go.Proofs.Ytofgdgdmmlgmnaa.lab
