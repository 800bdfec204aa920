/-
  Proved: a list of templates that is read out of memory; what both functions that ask whether a store is valid return.
  Conditions: none.
-/
import Derived.Test.YtghaddpicedenaaLab
import Derived.Test.YtghaddpicedenaaSeqI
namespace Go.Proofs.Ytghaddpicedenaa.sto
open Go.ChangeShapes Go.WideShapes Go.ChangeAt Go.RowKit Go.Joins
open Go.Proofs.Ytghaddpicedenaa.core Go.Proofs.Ytghaddpicedenaa.rown Go.Proofs.Ytghaddpicedenaa.stk Go.Proofs.Ytghaddpicedenaa.boxed Go.Proofs.Ytghaddpicedenaa.ft Go.Proofs.Ytghaddpicedenaa.seq Go.Proofs.Ytghaddpicedenaa.lab
set_option linter.unusedVariables false
set_option linter.unusedSimpArgs false
/-- A list of templates. -/
def TsAt (w : World) (A : Option Addr) (n : Nat) (lb : Nat → ByteArray) (ln : Nat → Nat) (lf : Nat → Nat → P3) : Prop :=
  ∀ i, i < n → ∃ (b o : Nat) (Ai : Option Addr) (ci : Nat), A = some ⟨b, o, none⟩ ∧ b < w.heap.size ∧ w.cell? ⟨b, o + i * 2, none⟩ = some (.string (lb i)) ∧ w.cell? ⟨b, o + i * 2 + 1, none⟩ = some (.slice Ai (ln i) ci) ∧ PtsAt w Ai (ln i) (lf i)
theorem TsAt.kept {w w' : World} {A : Option Addr} {n : Nat} {lb : Nat → ByteArray} {ln : Nat → Nat} {lf : Nat → Nat → P3} (h : TsAt w A n lb ln lf) (hb : Below w.heap.size w w') : TsAt w' A n lb ln lf := fun i hi => by
  obtain ⟨b, o, Ai, ci, e, h1, h2, h3, h4⟩ := h i hi
  exact ⟨b, o, Ai, ci, e, Nat.lt_of_lt_of_le h1 hb.size, (hb.cell (p := ⟨b, o + i * 2, none⟩) h1).trans h2, (hb.cell (p := ⟨b, o + i * 2 + 1, none⟩) h1).trans h3, h4.kept hb⟩
/-- No length is out of bounds. -/
structure TsL (n : Nat) (lb : Nat → ByteArray) (ln : Nat → Nat) : Prop where
  hn : n ≤ 1048576
  b : ∀ i, i < n → (lb i).size ≤ 1048576
  l : ∀ i, i < n → ln i ≤ 1048576
/-- A template is valid. -/
noncomputable def tmB (s : ByteArray) (n : Nat) (f : Nat → P3) : Bool := labB s && okQ n f
def StOk (band : Int) (n : Nat) (lb : Nat → ByteArray) (ln : Nat → Nat) (lf : Nat → Nat → P3) : Prop := (0 ≤ band ∧ band ≤ 72) ∧ n ≤ 40 ∧ ∀ i, i < n → tmB (lb i) (ln i) (lf i) = true
noncomputable def stB (band : Int) (n : Nat) (lb : Nat → ByteArray) (ln : Nat → Nat) (lf : Nat → Nat → P3) : Bool := @decide (StOk band n lb ln lf) (Classical.propDecidable _)
theorem st_iff {band : Int} {n : Nat} {lb : Nat → ByteArray} {ln : Nat → Nat} {lf : Nat → Nat → P3} : stB band n lb ln lf = true ↔ StOk band n lb ln lf := by unfold stB; exact @decide_eq_true_iff _ (Classical.propDecidable _)
theorem st_no {band : Int} {n : Nat} {lb : Nat → ByteArray} {ln : Nat → Nat} {lf : Nat → Nat → P3} (h : ¬ StOk band n lb ln lf) : stB band n lb ln lf = false := by unfold stB; exact @decide_eq_false _ (Classical.propDecidable _) h
theorem tm_no {s : ByteArray} {n : Nat} {f : Nat → P3} (h : labB s = false) : tmB s n f = false := by unfold tmB; rw [h]; rfl
theorem tm_yes {s : ByteArray} {n : Nat} {f : Nat → P3} (h : labB s = true) : tmB s n f = okQ n f := by unfold tmB; rw [h]; rfl
theorem max_of {n : Nat} (h : n ≤ 1048576) : n ≤ maxLen := by unfold maxLen; omega
set_option maxRecDepth 100000 in
set_option maxHeartbeats 2000000 in
theorem templS {c : Nat} (b o : Nat) (s : ByteArray) (A : Option Addr) (n : Nat) (f : Nat → P3) (w : World) (hb : b < w.heap.size) (c0 : w.cell? ⟨b, o, none⟩ = some (.string s)) (c1 : w.cell? ⟨b, o + 1, none⟩ = some (.slice A n c)) (hs : s.size ≤ 1048576) (hn : n ≤ 1048576) (hp : PtsAt w A n f) :
    Calls Try.prog 18 #[.pointer (some ⟨b, o, none⟩)] w fun e w' => e = .returned (.bool (tmB s n f)) ∧ Below w.heap.size w w' := by
  have HL := Lib.hid (fun W => isLabS s W (max_of hs))
  have HQ := Lib.hid (okQS (c := c) A n f w hn hp)
  have hund : undef = Value.tuple #[] := rfl
  clear hp
  cases h : labB s with
  | true =>
    rw [tm_yes h]
    rw [h] at HL
    clear h
    generalize okQ n f = r at *
    go_enter Try.func18, Try.ntmps18
    go_wp2_with fail
    refine (HL.out _).mono ?_
    rintro e _ ⟨rfl, rfl⟩
    go_wp2_with fail
    refine HQ.out.mono ?_
    rintro e w2 ⟨rfl, hb2⟩
    go_wp2
    go_ret
    exact ⟨rfl, hb2⟩
  | false =>
    rw [tm_no h]
    rw [h] at HL
    clear h HQ
    go_enter Try.func18, Try.ntmps18
    go_wp2_with fail
    refine (HL.out _).mono ?_
    rintro e _ ⟨rfl, rfl⟩
    go_wp2
    go_ret
    exact ⟨rfl, Below.refl _ _⟩
set_option maxRecDepth 100000 in
set_option maxHeartbeats 4000000 in
theorem storeOkS {c : Nat} (b o : Nat) (band : Int) (A : Option Addr) (n : Nat) (lb : Nat → ByteArray) (ln : Nat → Nat) (lf : Nat → Nat → P3) (w : World) (hb : b < w.heap.size) (c0 : w.cell? ⟨b, o, none⟩ = some (.int .i64 band)) (c1 : w.cell? ⟨b, o + 1, none⟩ = some (.slice A n c)) (hl : TsL n lb ln) (hp : TsAt w A n lb ln lf) :
    Calls Try.prog 17 #[.pointer (some ⟨b, o, none⟩)] w fun e w' => e = .returned (.bool (stB band n lb ln lf)) ∧ Below w.heap.size w w' := by
  have HP := Lib.hid hp
  have HL := Lib.hid hl
  have hn := hl.hn
  have C0 := Lib.hid c0
  have C1 := Lib.hid c1
  clear hp hl c0 c1
  go_enter Try.func17, Try.ntmps17
  go_wp2
  go_loopw [3] (fun i w' => ∃ k : Nat, k ≤ n ∧ i = .int .i64 (k : Int) ∧ Hid (∀ j, j < k → tmB (lb j) (ln j) (lf j) = true) ∧ Hid (Below w.heap.size w w')) (fun i _ => n - (intOf i).toNat)
  case atStart => exact ⟨0, Nat.zero_le _, rfl, Lib.hid (fun j hj => absurd hj (by omega)), Lib.hid (Below.refl _ _)⟩
  case round =>
    obtain ⟨k, hk, rfl, HE, HB⟩ := hrel
    have q0 := (HB.out.cell (p := ⟨b, o, none⟩) hb).trans C0.out
    have q1 := (HB.out.cell (p := ⟨b, o + 1, none⟩) hb).trans C1.out
    have hbr := Nat.lt_of_lt_of_le hb HB.out.size
    by_cases hlt : k < n
    · obtain ⟨b1, o1, Ai, ci, rfl, hb1, p0, p1, hq⟩ := (HP.out.kept HB.out) k hlt
      have hli : (k : Int) < (n : Int) := by omega
      have HI := Lib.hid (templS (c := ci) b1 (o1 + k * 2) (lb k) Ai (ln k) (lf k) wr hb1 p0 p1 (HL.out.b k hlt) (HL.out.l k hlt) hq)
      cases hi : tmB (lb k) (ln k) (lf k) with
      | true =>
        have HE2 := Lib.hid (show ∀ j, j < k + 1 → tmB (lb j) (ln j) (lf j) = true from fun j hj => by
          rcases Nat.lt_or_ge j k with h' | h'
          · exact HE.out j h'
          · obtain rfl : j = k := by omega
            exact hi)
        rw [hi] at HI
        clear hi hq HE p0 p1
        go_wp2_with fail
        refine HI.out.mono ?_
        rintro e w2 ⟨rfl, hb2⟩
        have HB2 := Lib.hid (HB.out.trans (hb2.mono HB.out.size))
        clear hb2 HI
        go_wp2
        go_roundw
        case rel => exact ⟨k + 1, by omega, by go_num, HE2, HB2⟩
        case measure => simp [intOf]; omega
      | false =>
        have HF := Lib.hid (st_no (band := band) (fun h : StOk band n lb ln lf => by have := h.2.2 k hlt; rw [hi] at this; cases this))
        rw [hi] at HI
        clear hi hq HE p0 p1
        go_wp2_with fail
        refine HI.out.mono ?_
        rintro e w2 ⟨rfl, hb2⟩
        have HB2 := Lib.hid (HB.out.trans (hb2.mono HB.out.size))
        clear hb2 HI
        go_wp2
        go_ret
        exact ⟨by rw [HF.out]; rfl, HB2.out⟩
    · obtain rfl : k = n := by omega
      have hund : undef = Value.tuple #[] := rfl
      by_cases hd : 0 ≤ band ∧ band ≤ 72
      · have HI := Lib.hid (fun W => in_t band 0 72 hd W)
        by_cases h40 : k ≤ 40
        · have h40i : (k : Int) ≤ 40 := by omega
          have d40 : decide ((k : Int) ≤ 40) = true := decide_eq_true h40i
          have HF := Lib.hid (st_iff.2 (show StOk band k lb ln lf from ⟨hd, h40, HE.out⟩))
          clear hd h40
          go_wp2_with fail
          with_reducible refine (HI.out _).mono ?_
          rintro e _ ⟨rfl, rfl⟩
          go_wp2
          go_ret
          exact ⟨by rw [HF.out]; rfl, HB.out⟩
        · have h40i : ¬ (k : Int) ≤ 40 := by omega
          have d40 : decide ((k : Int) ≤ 40) = false := decide_eq_false h40i
          have HF := Lib.hid (st_no (fun h : StOk band k lb ln lf => h40 h.2.1))
          clear hd h40
          go_wp2_with fail
          with_reducible refine (HI.out _).mono ?_
          rintro e _ ⟨rfl, rfl⟩
          go_wp2
          go_ret
          exact ⟨by rw [HF.out]; rfl, HB.out⟩
      · have HI := Lib.hid (fun W => in_f band 0 72 hd W)
        have HF := Lib.hid (st_no (fun h : StOk band k lb ln lf => hd h.1))
        clear hd
        go_wp2_with fail
        with_reducible refine (HI.out _).mono ?_
        rintro e _ ⟨rfl, rfl⟩
        go_wp2
        go_ret
        exact ⟨by rw [HF.out]; rfl, HB.out⟩
set_option maxRecDepth 100000 in
set_option maxHeartbeats 2000000 in
theorem noTemplI {c : Nat} (s : ByteArray) (A : Option Addr) (n : Nat) (f : Nat → P3) (w : World) (hs : s.size ≤ 1048576) (hn : n ≤ 1048576) (hp : PtsAt w A n f) :
    Calls Try.prog 23 #[.agg #[.string s, .slice A n c]] w fun e w' => e = .returned (.bool (!tmB s n f)) ∧ Below w.heap.size w w' := by
  have BL := below_alloc1 w (.cells #[.string s, .slice A n c] 38)
  have HL := Lib.hid (fun W => isLabI s W (max_of hs))
  have HQ := Lib.hid (okQI (c := c) A n f _ hn (hp.kept BL))
  have HBL := Lib.hid BL
  have hund : undef = Value.tuple #[] := rfl
  clear hp BL
  cases h : labB s with
  | true =>
    rw [tm_yes h]
    rw [h] at HL
    clear h
    generalize okQ n f = r at *
    go_enter Try.func23, Try.ntmps23
    go_wp2_with fail
    refine (HL.out _).mono ?_
    rintro e _ ⟨rfl, rfl⟩
    go_wp2_with fail
    refine HQ.out.mono ?_
    rintro e w2 ⟨rfl, hb2⟩
    have HB := Lib.hid (HBL.out.trans (hb2.mono HBL.out.size))
    clear hb2
    go_wp2
    go_ret
    exact ⟨rfl, HB.out⟩
  | false =>
    rw [tm_no h]
    rw [h] at HL
    clear h HQ
    go_enter Try.func23, Try.ntmps23
    go_wp2_with fail
    refine (HL.out _).mono ?_
    rintro e _ ⟨rfl, rfl⟩
    go_wp2
    go_ret
    exact ⟨rfl, HBL.out⟩
def allT (n : Nat) (lb : Nat → ByteArray) (ln : Nat → Nat) (lf : Nat → Nat → P3) : Prop := ∀ i, i < n → tmB (lb i) (ln i) (lf i) = true
set_option maxRecDepth 100000 in
set_option maxHeartbeats 2000000 in
theorem indexTI {cb : Nat} (B : Option Addr) (n : Nat) (lb : Nat → ByteArray) (ln : Nat → Nat) (lf : Nat → Nat → P3) (r : Bool) (w : World) (hl : TsL n lb ln) (hr : r = true ↔ allT n lb ln lf) (hp : TsAt w B n lb ln lf) :
    Calls Try.prog 44 #[.slice B n cb, .func (.func 23) #[] #[]] w fun e w' => (∃ k : Int, e = .returned (.int .i64 k) ∧ decide (0 ≤ k) = !r) ∧ Below w.heap.size w w' := by
  have HP := Lib.hid hp
  have HR := Lib.hid hr
  have HLN := Lib.hid hl
  have hn := hl.hn
  clear hp hr hl
  go_enter Try.func44, Try.ntmps44
  go_wp2
  go_loopw [8] (fun i w' => ∃ k : Nat, k ≤ n ∧ i = .int .i64 (k : Int) ∧ Hid (∀ j, j < k → tmB (lb j) (ln j) (lf j) = true) ∧ Hid (Below w.heap.size w w')) (fun i _ => n - (intOf i).toNat)
  case atStart => exact ⟨0, Nat.zero_le _, rfl, Lib.hid (fun j hj => absurd hj (by omega)), Lib.hid (Below.refl _ _)⟩
  case round =>
    obtain ⟨k, hk, rfl, HE, HB⟩ := hrel
    by_cases hlt : k < n
    · obtain ⟨g, o, Ai, ci, rfl, hg, c0, c1, hq⟩ := (HP.out.kept HB.out) k hlt
      have hli : (k : Int) < (n : Int) := by omega
      have HI := Lib.hid (noTemplI (c := ci) (lb k) Ai (ln k) (lf k) wr (HLN.out.b k hlt) (HLN.out.l k hlt) hq)
      cases hi : tmB (lb k) (ln k) (lf k) with
      | true =>
        have HE2 := Lib.hid (show ∀ j, j < k + 1 → tmB (lb j) (ln j) (lf j) = true from fun j hj => by
          rcases Nat.lt_or_ge j k with h' | h'
          · exact HE.out j h'
          · obtain rfl : j = k := by omega
            exact hi)
        rw [hi] at HI
        clear hi hq HE
        generalize ln k = q at *
        generalize lb k = tx at *
        go_wp2_with fail
        refine HI.out.mono ?_
        rintro e w2 ⟨rfl, hb2⟩
        have HB2 := Lib.hid (HB.out.trans (hb2.mono HB.out.size))
        clear hb2 c0 c1 HI
        go_wp2
        go_roundw
        case rel => exact ⟨k + 1, by omega, by go_num, HE2, HB2⟩
        case measure => simp [intOf]; omega
      | false =>
        have HF := Lib.hid (show r = false by
          cases hh : r
          · rfl
          · have := HR.out.1 hh k hlt
            rw [hi] at this
            cases this)
        rw [hi] at HI
        clear hi hq HE
        generalize ln k = q at *
        generalize lb k = tx at *
        go_wp2_with fail
        refine HI.out.mono ?_
        rintro e w2 ⟨rfl, hb2⟩
        have HB2 := Lib.hid (HB.out.trans (hb2.mono HB.out.size))
        clear hb2 c0 c1 HI
        go_wp2
        go_ret
        exact ⟨⟨_, rfl, by rw [HF.out]; simp⟩, HB2.out⟩
    · obtain rfl : k = n := by omega
      have HF := Lib.hid (show r = true from HR.out.2 HE.out)
      go_wp2
      go_ret
      exact ⟨⟨-1, rfl, by rw [HF.out]; rfl⟩, HB.out⟩
set_option maxRecDepth 100000 in
set_option maxHeartbeats 2000000 in
theorem containsTI {cb : Nat} (B : Option Addr) (n : Nat) (lb : Nat → ByteArray) (ln : Nat → Nat) (lf : Nat → Nat → P3) (r : Bool) (w : World) (hl : TsL n lb ln) (hr : r = true ↔ allT n lb ln lf) (hp : TsAt w B n lb ln lf) :
    Calls Try.prog 35 #[.slice B n cb, .func (.func 23) #[] #[]] w fun e w' => e = .returned (.bool (!r)) ∧ Below w.heap.size w w' := by
  have HC := Lib.hid (indexTI (cb := cb) B n lb ln lf r w hl hr hp)
  clear hr hp hl
  go_enter Try.func35, Try.ntmps35
  go_wp2_with fail
  refine HC.out.mono ?_
  rintro e w1 ⟨⟨k, rfl, hk⟩, hb⟩
  have HK := Lib.hid hk
  have HB := Lib.hid hb
  clear hk hb
  by_cases h : 0 ≤ k
  · have HK2 := Lib.hid (show true = !r by rw [← HK.out, decide_eq_true h])
    go_wp2
    go_ret
    exact ⟨by first | exact ret_bool HK2.out | exact ret_bool HK.out, HB.out⟩
  · have HK2 := Lib.hid (show false = !r by rw [← HK.out, decide_eq_false h])
    go_wp2
    go_ret
    exact ⟨by first | exact ret_bool HK2.out | exact ret_bool HK.out, HB.out⟩
set_option maxRecDepth 100000 in
set_option maxHeartbeats 4000000 in
theorem validStI {c : Nat} (band : Int) (A : Option Addr) (n : Nat) (lb : Nat → ByteArray) (ln : Nat → Nat) (lf : Nat → Nat → P3) (w : World) (hl : TsL n lb ln) (hp : TsAt w A n lb ln lf) :
    Calls Try.prog 22 #[.agg #[.int .i64 band, .slice A n c]] w fun e w' => e = .returned (.bool (stB band n lb ln lf)) ∧ Below w.heap.size w w' := by
  have BL := below_alloc1 w (.cells #[.int .i64 band, .slice A n c] 32)
  have hund : undef = Value.tuple #[] := rfl
  have hn := hl.hn
  by_cases hd : 0 ≤ band ∧ band ≤ 72
  · obtain ⟨hd1, hd2⟩ := hd
    have d2 : decide (band ≤ 72) = true := decide_eq_true hd2
    by_cases h40 : n ≤ 40
    · have h40i : (n : Int) ≤ 40 := by omega
      have d40 : decide ((n : Int) ≤ 40) = true := decide_eq_true h40i
      have HC := Lib.hid (containsTI (cb := c) A n lb ln lf (stB band n lb ln lf) (w.alloc (.cells #[.int .i64 band, .slice A n c] 32)) hl (by rw [st_iff]; exact ⟨fun h => h.2.2, fun h => ⟨⟨hd1, hd2⟩, h40, h⟩⟩) (hp.kept BL))
      have HBL := Lib.hid BL
      clear hp hl BL h40
      generalize stB band n lb ln lf = r at *
      go_enter Try.func22, Try.ntmps22
      go_wp2_with fail
      refine HC.out.mono ?_
      rintro e w1 ⟨rfl, hb⟩
      have HB := Lib.hid (HBL.out.trans (hb.mono HBL.out.size))
      clear hb
      go_wp2
      go_ret
      exact ⟨by cases r <;> rfl, HB.out⟩
    · have h40i : ¬ (n : Int) ≤ 40 := by omega
      have d40 : decide ((n : Int) ≤ 40) = false := decide_eq_false h40i
      rw [st_no (fun h => h40 h.2.1)]
      clear hp hl h40
      go_enter Try.func22, Try.ntmps22
      go_wp2
      go_ret
      exact ⟨rfl, BL⟩
  · rw [st_no (fun h => hd h.1)]
    clear hp hl
    by_cases h0 : 0 ≤ band
    · have d2 : decide (band ≤ 72) = false := decide_eq_false (by omega)
      have h2 : ¬ band ≤ 72 := by omega
      clear hd
      go_enter Try.func22, Try.ntmps22
      go_wp2
      go_ret
      exact ⟨rfl, BL⟩
    · clear hd
      go_enter Try.func22, Try.ntmps22
      go_wp2
      go_ret
      exact ⟨rfl, BL⟩
end Go.Proofs.Ytghaddpicedenaa.sto
