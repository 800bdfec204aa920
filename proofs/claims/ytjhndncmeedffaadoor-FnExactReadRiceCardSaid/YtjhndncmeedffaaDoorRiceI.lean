/-
  Proved: the program's functions that write a Rice code.
  Conditions: none.
-/
import Derived.Test.YtjhndncmeedffaaDoorNumI
import Derived.Test.YtjhndncmeedffaaDoorRice
namespace Go.Proofs.YtjhndncmeedffaaDoor.riceI
open Go.ChangeShapes Go.WideShapes Go.ChangeAt Go.RowKit Go.Joins
open Go.Proofs.YtjhndncmeedffaaDoor.core Go.Proofs.YtjhndncmeedffaaDoor.rows Go.Proofs.YtjhndncmeedffaaDoor.bits Go.Proofs.YtjhndncmeedffaaDoor.numS Go.Proofs.YtjhndncmeedffaaDoor.writer Go.Proofs.YtjhndncmeedffaaDoor.riceS
set_option linter.unusedVariables false
set_option linter.unusedSimpArgs false

theorem folded_calls (n : Int) (h : -1000000000 ≤ n ∧ n ≤ 1000000000) (w : World) :
    Calls Tryd.prog 46 #[.int .i64 n] w fun e w' => e = .returned (.int .i64 (fold n : Nat)) ∧ w = w' := by
  obtain ⟨h1, h2⟩ := h
  obtain ⟨f1, f2⟩ := fold_eq n
  by_cases hn : n < 0
  · have F := Lib.hid (f1 hn)
    clear f1 f2
    go_enter Tryd.func46, Tryd.ntmps46
    go_wp2
    go_ret
    exact ⟨ret_int F.out.symm, by trivial⟩
  · have F := Lib.hid (f2 hn)
    clear f1 f2
    go_enter Tryd.func46, Tryd.ntmps46
    go_wp2
    go_ret
    exact ⟨ret_int F.out.symm, by trivial⟩
theorem long_yes (u k : Nat) (hu : u ≤ 2000000000) (hk : k ≤ 12) (h : ¬ u / 2 ^ k < 20) (w : World) :
    Calls Tryd.prog 47 #[.int .i64 u, .int .i64 k] w fun e w' => e = .returned (.bool true) ∧ w = w' := by
  have HQ := quo u k
  generalize u / 2 ^ k = q at *
  have hq : (20 : Int) ≤ (q : Int) := by omega
  clear h
  go_enter Tryd.func47, Tryd.ntmps47
  go_wp2
  go_ret
  exact ⟨by simp [hq], by trivial⟩
theorem long_no (u k : Nat) (hu : u ≤ 2000000000) (hk : k ≤ 12) (h : u / 2 ^ k < 20) (w : World) :
    Calls Tryd.prog 47 #[.int .i64 u, .int .i64 k] w fun e w' => e = .returned (.bool false) ∧ w = w' := by
  have HQ := quo u k
  generalize u / 2 ^ k = q at *
  have hq : ¬ (20 : Int) ≤ (q : Int) := by omega
  clear h
  go_enter Tryd.func47, Tryd.ntmps47
  go_wp2
  go_ret
  exact ⟨by simp [hq], by trivial⟩
theorem par_yes (k : Int) (h : 0 ≤ k ∧ k ≤ 12) (w : World) :
    Calls Tryd.prog 25 #[.int .i64 k] w fun e w' => e = .returned (.bool true) ∧ w = w' := by
  obtain ⟨h1, h2⟩ := h
  go_enter Tryd.func25, Tryd.ntmps25
  go_wp2
  go_ret
  exact ⟨by simp [h2], by trivial⟩
theorem par_no (k : Int) (h : ¬ (0 ≤ k ∧ k ≤ 12)) (w : World) :
    Calls Tryd.prog 25 #[.int .i64 k] w fun e w' => e = .returned (.bool false) ∧ w = w' := by
  by_cases h1 : 0 ≤ k
  · have h2 : decide (k ≤ 12) = false := decide_eq_false fun x => h ⟨h1, x⟩
    clear h
    go_enter Tryd.func25, Tryd.ntmps25
    go_wp2
    go_ret
    exact ⟨by simp [h2], by trivial⟩
  · clear h
    go_enter Tryd.func25, Tryd.ntmps25
    go_wp2
    go_ret
    exact ⟨by trivial, by trivial⟩

theorem byte49 (B b : Nat) (l : List UInt8) (w : World) (h : Wr B b l w) (hlen : l.length + 1 ≤ 140737488355328) (hBw : B ≤ w.heap.size) :
    Calls Tryd.prog 50 #[.pointer (some ⟨b, 0, none⟩), .int .u8 49] w fun e w' => e = .returned .nilIface ∧ Wr B b (l ++ [(49 : Nat).toUInt8]) w' ∧ Below B w w' ∧ Lib.OthersKept 5 (some b) w w' :=
  byte_calls B b l 49 w (by decide) h hlen hBw
set_option maxRecDepth 100000 in
set_option maxHeartbeats 2000000 in
theorem ones_calls (B b : Nat) (l : List UInt8) (q : Nat) (hq : q ≤ 20) (w : World) (h : Wr B b l w) (hlen : l.length + q ≤ 140737488355328) (hBw : B ≤ w.heap.size) :
    Calls Tryd.prog 48 #[.pointer (some ⟨b, 0, none⟩), .int .i64 q] w fun e w' => e = .returned (.tuple #[]) ∧ Wrote B b (l ++ List.replicate q 49) w w' := by
  have HW := Lib.hid (Wrote.refl h)
  clear h
  go_enter Tryd.func48, Tryd.ntmps48
  go_wp2
  go_loopw [5] (fun i w' => ∃ (m : Nat), m ≤ q ∧ i = .int .i64 (m : Int) ∧ Hid (Wrote B b (l ++ List.replicate m 49) w w')) (fun i _ => q - (intOf i).toNat)
  case atStart => exact ⟨0, by omega, rfl, by simpa using HW⟩
  case round =>
    obtain ⟨m, hm, rfl, HO⟩ := hrel
    by_cases hlt : m < q
    · have HC := Lib.hid (byte49 B b _ wr HO.out.wr (by rw [List.length_append, List.length_replicate]; omega) (Nat.le_trans hBw HO.out.below.size))
      have hlt' : (m : Int) < (q : Int) := by omega
      go_wp2_with fail
      with_reducible refine HC.out.mono ?_
      rintro e w1 ⟨rfl, h1, h2, h3⟩
      have H3 := Lib.hid (HO.out.trans ⟨h1, h2, h3⟩)
      clear h1 h2 h3 HC HO
      go_wp2
      go_roundw
      case rel => exact ⟨m + 1, by omega, by go_num, Lib.hid (by rw [rep_snoc, ← List.append_assoc]; exact H3.out)⟩
      case measure => simp [intOf]; omega
    · obtain rfl : m = q := by omega
      go_wp2
      go_end0
      exact ⟨rfl, HO.out⟩

/-- What the encoder has captured: its parameter, the writer and the power. -/
structure Enc (b bk bw br k p : Nat) (w : World) : Prop where
  ck : w.heap[bk]? = some (.cells #[.int .i64 (k : Int)] 2 (0, 0))
  cw : w.heap[bw]? = some (.cells #[.pointer (some ⟨b, 0, none⟩)] 70 (0, 0))
  cr : w.heap[br]? = some (.cells #[.int .i64 (p : Int)] 2 (0, 0))
  nk : bk ≠ b
  nw : bw ≠ b
  nr : br ≠ b
theorem Enc.kept {b bk bw br k p : Nat} {w w' : World} (h : Enc b bk bw br k p w) (ho : Lib.OthersKept 5 (some b) w w') : Enc b bk bw br k p w' :=
  ⟨ho bk _ h.ck (fun e => h.nk (Option.some.inj e)) (fun c fz e => by simp at e), ho bw _ h.cw (fun e => h.nw (Option.some.inj e)) (fun c fz e => by simp at e), ho br _ h.cr (fun e => h.nr (Option.some.inj e)) (fun c fz e => by simp at e), h.nk, h.nw, h.nr⟩
theorem Enc.drew {b bk bw br k p : Nat} {w : World} (h : Enc b bk bw br k p w) : Enc b bk bw br k p w.drew := ⟨h.ck, h.cw, h.cr, h.nk, h.nw, h.nr⟩
theorem Enc.cells {b bk bw br k p : Nat} {w : World} (h : Enc b bk bw br k p w) : w.cell? ⟨bk, 0, none⟩ = some (.int .i64 (k : Int)) ∧ w.cell? ⟨bw, 0, none⟩ = some (.pointer (some ⟨b, 0, none⟩)) ∧ w.cell? ⟨br, 0, none⟩ = some (.int .i64 (p : Int)) :=
  ⟨by rw [Lib.cell_of_heap h.ck]; rfl, by rw [Lib.cell_of_heap h.cw]; rfl, by rw [Lib.cell_of_heap h.cr]; rfl⟩

set_option maxRecDepth 100000 in
set_option maxHeartbeats 4000000 in
theorem encode_calls (B b bk bw br k : Nat) (l : List UInt8) (n : Int) (h : -1000000000 ≤ n ∧ n ≤ 1000000000) (hk : k ≤ 12) (w : World) (hE : Enc b bk bw br k (2 ^ k) w) (hw : Wr B b l w) (hlen : l.length + 60 ≤ 140737488355328) (hBw : B ≤ w.heap.size) :
    Calls Tryd.prog 45 #[.int .i64 n, .pointer (some ⟨bk, 0, none⟩), .pointer (some ⟨bw, 0, none⟩), .pointer (some ⟨br, 0, none⟩)] w fun e w' => e = .returned (.tuple #[]) ∧ Wrote B b (l ++ rice n k) w w' := by
  have hu : fold n ≤ 2000000000 := fold_le n 1000000000 h
  have HF := Lib.hid (folded_calls n h w)
  have HE := Lib.hid hE
  have HW := Lib.hid (Wrote.refl hw)
  by_cases hs : fold n / 2 ^ k < 20
  · have HR := Lib.hid (rice_short n k hs)
    have HL := Lib.hid (long_no (fold n) k hu hk hs w)
    have hr := rest_lt (fold n) k hk
    have hrm : fold n % 2 ^ k = fold n % 2 ^ k := rfl
    generalize rice n k = c at *
    obtain ⟨c1, c2, c3⟩ := hE.cells
    generalize fold n = u at *
    have hp : 1 ≤ 2 ^ k ∧ 2 ^ k ≤ 4096 := ⟨Nat.two_pow_pos k, Nat.pow_le_pow_right (by decide) (show k ≤ 12 from hk)⟩
    have HQ := Lib.hid (show (u : Int) / ((2 ^ k : Nat) : Int) = ((u / 2 ^ k : Nat) : Int) by simp)
    have HM := Lib.hid (show (u : Int) % ((2 ^ k : Nat) : Int) = ((u % 2 ^ k : Nat) : Int) by simp)
    have hqu : u / 2 ^ k ≤ u := Nat.div_le_self _ _
    generalize u / 2 ^ k = q at *
    generalize u % 2 ^ k = r at *
    generalize 2 ^ k = p at *
    have HQ1 := Lib.hid (show wrap64 ((u : Int) / (p : Int)) = (q : Int) by rw [HQ.out]; unfold wrap64; omega)
    have HQ2 := Lib.hid (show IntKind.i64.wrap ((u : Int) / (p : Int)) = (q : Int) by rw [IntWalk.i64_left]; exact HQ1.out)
    obtain ⟨hp1, hp2⟩ := hp
    have HM1 := Lib.hid (show (u : Int).tmod (p : Int) = (r : Int) by rw [Int.tmod_eq_emod_of_nonneg (by omega)]; exact HM.out)
    have HV := Lib.hid (show ∃ v : Nat, v = 1 + k from ⟨_, rfl⟩)
    obtain ⟨v, hv⟩ := HV.out
    rw [← hv] at HR
    have HK2 := Lib.hid (show 1 + (k : Int) = (v : Int) by omega)
    have HK1 := Lib.hid (show IntKind.i64.wrap (1 + (k : Int)) = (v : Int) by rw [IntWalk.i64_left, HK2.out]; unfold wrap64; omega)
    have HK3 := Lib.hid (show wrap64 (1 + (k : Int)) = (v : Int) by rw [← IntWalk.i64_left]; exact HK1.out)
    have hv2 : v ≤ 13 := by omega
    clear hv HV
    have hq : q ≤ 20 := by omega
    have H1 := Lib.hid (ones_calls B b l q (by omega) w.drew hw.drew (by omega) hBw)
    clear hs hE hw h hrm
    go_enter Tryd.func45, Tryd.ntmps45
    go_wp2_with fail
    with_reducible refine HF.out.mono ?_
    rintro e w1 ⟨rfl, rfl⟩
    go_wp2_with fail
    with_reducible refine HL.out.mono ?_
    rintro e w1 ⟨rfl, rfl⟩
    go_wp2
    go_region_with (go_at_call 48; (first | rw [HQ1.out] | rw [HQ2.out] | rw [HQ.out]); refine H1.out.mono ?_; rintro e w1 ⟨rfl, h1⟩; have H2 := Lib.hid (HW.out.drew.trans h1); have H3 := Lib.hid (HE.out.drew.kept h1.others); clear h1)
    all_goals
      clear c1 c2 c3
      have hpz : ¬ (p : Int) = 0 := by omega
      have hpz2 : ((p : Int) == 0) = false := by simp; omega
      obtain ⟨c1, c2, c3⟩ := H3.out.cells
      have H4 := Lib.hid (number_calls B b _ r v (by omega) (by omega) w1.drew H2.out.wr.drew (by rw [List.length_append, List.length_replicate]; omega) (Nat.le_trans hBw H2.out.below.size))
      go_wp2
      go_region_with (go_at_call 32; (first | rw [HM1.out] | rw [HM.out]); (first | rw [HK1.out] | rw [HK2.out] | rw [HK3.out]); refine H4.out.mono ?_; rintro e w2 ⟨rfl, h1⟩; have H5 := Lib.hid (H2.out.drew.trans h1); clear h1)
      all_goals
        go_wp2
        go_end0
        exact ⟨rfl, by rw [HR.out, ← List.append_assoc]; exact H5.out⟩
  · have HR := Lib.hid ((rice_def n k).trans (if_neg hs))
    have HL := Lib.hid (long_yes (fold n) k hu hk hs w)
    generalize rice n k = c at *
    obtain ⟨c1, c2, c3⟩ := hE.cells
    have hpos : 0 ≤ (fold n : Int) := by omega
    generalize fold n = u at *
    have H1 := Lib.hid (ones_calls B b l 20 (by omega) w hw (by omega) hBw)
    clear hs hE hw h
    go_enter Tryd.func45, Tryd.ntmps45
    go_wp2_with fail
    with_reducible refine HF.out.mono ?_
    rintro e w1 ⟨rfl, rfl⟩
    go_wp2_with fail
    with_reducible refine HL.out.mono ?_
    rintro e w1 ⟨rfl, rfl⟩
    go_wp2_with fail
    refine H1.out.mono ?_
    rintro e w1 ⟨rfl, h1⟩
    have H2 := Lib.hid h1
    have H3 := Lib.hid (number_calls B b _ u 32 (by omega) (by omega) w1 h1.wr (by rw [List.length_append, List.length_replicate]; omega) (Nat.le_trans hBw h1.below.size))
    obtain ⟨c1', c2', c3'⟩ := (HE.out.kept h1.others).cells
    clear h1 c1 c2 c3
    go_wp2_with fail
    refine H3.out.mono ?_
    rintro e w2 ⟨rfl, h1⟩
    have H4 := Lib.hid (H2.out.trans h1)
    clear h1
    go_wp2
    refine bodyPost_ret (results_none (by kernel_rfl) _ _ _) rfl ?_
    exact ⟨rfl, by rw [HR.out, ← List.append_assoc]; exact H4.out⟩

end Go.Proofs.YtjhndncmeedffaaDoor.riceI
