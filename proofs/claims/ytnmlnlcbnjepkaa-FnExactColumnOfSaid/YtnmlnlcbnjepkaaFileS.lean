/-
  Proved: what the document's functions that ask whether a file is valid return (contracts of callees of the exact laws of chapter 3).
  Conditions: the file is read out of memory.
-/
import Derived.Test.YtnmlnlcbnjepkaaView
import Derived.Test.YtnmlnlcbnjepkaaNames
namespace Go.Proofs.Ytnmlnlcbnjepkaa.fileS
open Go.ChangeShapes Go.WideShapes Go.ChangeAt Go.RowKit Go.Joins
open Go.Proofs.Ytnmlnlcbnjepkaa.core Go.Proofs.Ytnmlnlcbnjepkaa.names
set_option linter.unusedVariables false
set_option linter.unusedSimpArgs false

/-- The truth of a proposition. -/
noncomputable def tf (P : Prop) : Bool := @decide P (Classical.propDecidable P)
theorem tf_t {P : Prop} (h : P) : tf P = true := @decide_eq_true _ (Classical.propDecidable _) h
theorem tf_iff {P : Prop} : tf P = true ↔ P := @decide_eq_true_iff _ (Classical.propDecidable _)
theorem tf_f {P : Prop} (h : ¬ P) : tf P = false := @decide_eq_false _ (Classical.propDecidable _) h

theorem ret_bool {a b : Bool} (h : a = b) : Ending.returned (.bool a) = .returned (.bool b) := by rw [h]
def ChP (s u : ByteArray) (lo hi : Int) : Prop := nameB s = true ∧ nameB u = true ∧ -1000000000 ≤ lo ∧ lo < hi ∧ hi ≤ 1000000000

theorem in_calls (n lo hi : Int) (w : World) (v : Bool) (hv : tf (lo ≤ n ∧ n ≤ hi) = v) : Calls Try.prog 74 #[.int .i64 n, .int .i64 lo, .int .i64 hi] w fun e w' => e = .returned (.bool v) ∧ Below w.heap.size w w' := by
  subst hv
  by_cases h1 : lo ≤ n
  · by_cases h2 : n ≤ hi
    · have HT := Lib.hid (tf_t (And.intro h1 h2))
      have d : decide (n ≤ hi) = true := decide_eq_true h2
      rw [HT.out]
      go_enter Try.func74, Try.ntmps74
      go_wp2
      go_ret
      exact ⟨rfl, Below.refl _ _⟩
    · have HT := Lib.hid (tf_f (P := lo ≤ n ∧ n ≤ hi) fun h => h2 h.2)
      have d : decide (n ≤ hi) = false := decide_eq_false h2
      have d' : hi < n := by omega
      rw [HT.out]
      go_enter Try.func74, Try.ntmps74
      go_wp2
      go_ret
      exact ⟨rfl, Below.refl _ _⟩
  · have HT := Lib.hid (tf_f (P := lo ≤ n ∧ n ≤ hi) fun h => h1 h.1)
    have d' : n < lo := by omega
    rw [HT.out]
    go_enter Try.func74, Try.ntmps74
    go_wp2
    go_ret
    exact ⟨rfl, Below.refl _ _⟩
theorem value_calls (n : Int) (w : World) (v : Bool) (hv : tf (-1000000000 ≤ n ∧ n ≤ 1000000000) = v) : Calls Try.prog 145 #[.int .i64 n] w fun e w' => e = .returned (.bool v) ∧ Below w.heap.size w w' := by
  have HV := Lib.hid hv
  clear hv
  go_enter Try.func145, Try.ntmps145
  go_wp2_with fail
  refine (in_calls _ _ _ _ v HV.out).mono ?_
  rintro e w' ⟨rfl, hb⟩
  have HB := Lib.hid hb
  clear hb
  go_wp2
  go_ret
  exact ⟨rfl, HB.out⟩
theorem name_b (s : ByteArray) (w : World) (hs : s.size ≤ maxLen) (v : Bool) (hv : nameB s = v) : Calls Try.prog 65 #[.string s] w fun e w' => e = .returned (.bool v) ∧ Below w.heap.size w w' :=
  (isName_spec s w hs).mono fun _ _ ⟨he, hw⟩ => ⟨by rw [he, hv], by subst hw; exact Below.refl _ _⟩
theorem mixedR : Try.prog.follows .mixedOrders = true := by kernel_rfl

set_option maxRecDepth 100000 in
set_option maxHeartbeats 2000000 in
theorem channel_calls (b o : Nat) (s u : ByteArray) (lo hi : Int) (w : World) (hb : b < w.heap.size) (c0 : w.cell? ⟨b, o, none⟩ = some (.string s)) (c1 : w.cell? ⟨b, o + 1, none⟩ = some (.string u)) (c2 : w.cell? ⟨b, o + 2, none⟩ = some (.int .i64 lo)) (c3 : w.cell? ⟨b, o + 3, none⟩ = some (.int .i64 hi))
    (hs : s.size ≤ maxLen) (hu : u.size ≤ maxLen) (v : Bool) (hv : tf (ChP s u lo hi) = v) :
    Calls Try.prog 91 #[.pointer (some ⟨b, o, none⟩)] w fun e w' => e = .returned (.bool v) ∧ Below w.heap.size w w' := by
  have k0 := cell_kept hb c0
  have k1 := cell_kept hb c1
  have k2 := cell_kept hb c2
  have k3 := cell_kept hb c3
  clear c0 c1 c2 c3
  have hmix := mixedR
  have hund : undef = Value.tuple #[] := rfl
  generalize hn1 : nameB s = n1
  generalize hn2 : nameB u = n2
  generalize hv1 : tf (-1000000000 ≤ lo ∧ lo ≤ 1000000000) = v1
  generalize hv2 : tf (-1000000000 ≤ hi ∧ hi ≤ 1000000000) = v2
  generalize hd : decide (lo < hi) = d
  have hv' : (n1 && n2 && v1 && v2 && d) = v := by
    rw [← hv, Bool.eq_iff_iff, tf_iff, ChP, ← hn1, ← hn2, ← hv1, ← hv2, ← hd]
    simp only [Bool.and_eq_true, tf_iff, decide_eq_true_eq]
    constructor
    · rintro ⟨⟨⟨⟨h1, h2⟩, h3, h4⟩, h5, h6⟩, h7⟩
      exact ⟨h1, h2, h3, h7, h6⟩
    · rintro ⟨h1, h2, h3, h7, h6⟩
      exact ⟨⟨⟨⟨h1, h2⟩, h3, by omega⟩, by omega, h6⟩, h7⟩
  have N1 := Lib.hid hn1
  have N2 := Lib.hid hn2
  have V1 := Lib.hid hv1
  have V2 := Lib.hid hv2
  clear hn1 hn2 hv1 hv2 hv
  have hc : n1 = false ∨ (n1 = true ∧ n2 = false) ∨ (n1 = true ∧ n2 = true ∧ v1 = false) ∨ (n1 = true ∧ n2 = true ∧ v1 = true ∧ v2 = false) ∨ (n1 = true ∧ n2 = true ∧ v1 = true ∧ v2 = true) := by
    cases n1 <;> cases n2 <;> cases v1 <;> cases v2 <;> simp
  rcases hc with rfl | ⟨rfl, rfl⟩ | ⟨rfl, rfl, rfl⟩ | ⟨rfl, rfl, rfl, rfl⟩ | ⟨rfl, rfl, rfl, rfl⟩
  all_goals
    simp only [Bool.true_and, Bool.false_and, Bool.and_true, Bool.and_false] at hv'
    subst hv'
    go_enter Try.func91, Try.ntmps91
    go_wp2
    refine wp_region_quiet_kept (by assumption) (by kernel_rfl) ?_
    have t1 := N1.out
    have t2 := N2.out
    have t3 := V1.out
    have t4 := V2.out
    repeat (first | go_big_quiet_step ((first | (go_at_call 65; exact Calls.kept_of (name_b _ _ (by assumption) _ (by assumption))) | (go_at_call 145; exact Calls.kept_of (value_calls _ _ _ (by assumption))))) | quiet_step ((first | (go_at_call 65; exact Calls.kept_of (name_b _ _ (by assumption) _ (by assumption))) | (go_at_call 145; exact Calls.kept_of (value_calls _ _ _ (by assumption))))))
    refine wpQuiet_nil ?_
    intro w2 hw'
    have hB : Below w.heap.size w w2 := by obtain ⟨⟨wk, hb0⟩, hw''⟩ := hw'; rw [hw'']; exact hb0
    have HB := Lib.hid hB
    clear hw' hB k0 k1 k2 k3
    go_wp2
    go_ret
    exact ⟨rfl, HB.out⟩

theorem str_ne {t s : ByteArray} (h : ¬ t = s) : (t.toList == s.toList) = false := by
  rw [beq_eq_false_iff_ne]
  intro e
  apply h
  rw [ByteArray.toList_eq, ByteArray.toList_eq] at e
  have e2 : t.data = s.data := Array.toList_inj.1 e
  cases t; cases s
  exact congrArg ByteArray.mk e2
/-- The first of n names that is s; -1 if there is none. -/
noncomputable def fnd (nm : Nat → ByteArray) (s : ByteArray) : Nat → Int
  | 0 => -1
  | n + 1 => if fnd nm s n = -1 then (if tf (nm n = s) = true then (n : Int) else -1) else fnd nm s n
theorem fnd_none {nm : Nat → ByteArray} {s : ByteArray} {n : Nat} (h : ∀ i, i < n → nm i ≠ s) : fnd nm s n = -1 := by
  induction n with
  | zero => rfl
  | succ n ih =>
    have h1 := ih fun i hi => h i (by omega)
    have h2 : ¬ tf (nm n = s) = true := by rw [tf_iff]; exact h n (by omega)
    simp only [fnd, h1, if_true, h2, if_false]
    rfl
theorem fnd_hit {nm : Nat → ByteArray} {s : ByteArray} {n k : Nat} (h : ∀ i, i < k → nm i ≠ s) (hk : nm k = s) (hn : k < n) : fnd nm s n = (k : Int) := by
  induction n with
  | zero => omega
  | succ n ih =>
    by_cases e : k = n
    · subst e
      have h1 := fnd_none h
      simp only [fnd, h1, if_true, tf_t hk]
    · have h1 := ih (by omega)
      simp only [fnd, h1]
      rw [if_neg (by omega)]

/-- The names of the channels at A. -/
def NamesAt (w : World) (A : Option Addr) (n : Nat) (nm : Nat → ByteArray) : Prop := ∀ i, i < n → ∃ b o : Nat, A = some ⟨b, o, none⟩ ∧ b < w.heap.size ∧ w.cell? ⟨b, o + i * 4, none⟩ = some (.string (nm i))

set_option maxRecDepth 100000 in
set_option maxHeartbeats 2000000 in
theorem find_calls (b o : Nat) (A : Option Addr) (n c : Nat) (nm : Nat → ByteArray) (s : ByteArray) (w : World) (hm : n ≤ maxLen) (c0 : w.cell? ⟨b, o, none⟩ = some (.slice A n c)) (hn : NamesAt w A n nm) :
    Calls Try.prog 43 #[.pointer (some ⟨b, o, none⟩), .string s] w fun e w' => e = .returned (.int .i64 (fnd nm s n)) ∧ Below w.heap.size w w' := by
  have HN := Lib.hid hn
  have hm' : n ≤ 9223372036854775807 := by unfold maxLen at hm; omega
  clear hn hm
  go_enter Try.func43, Try.ntmps43
  go_wp2
  go_loop [5] (fun i => ∃ k : Nat, k ≤ n ∧ i = .int .i64 (k : Int) ∧ Hid (∀ j, j < k → nm j ≠ s)) (fun i => n - (intOf i).toNat)
  case atStart => exact ⟨0, Nat.zero_le _, rfl, Lib.hid fun j hj => absurd hj (by omega)⟩
  case round =>
    obtain ⟨k, hk, rfl, HA⟩ := hrel
    by_cases hlt : k < n
    · obtain ⟨b', o', rfl, hbl, q0⟩ := HN.out k hlt
      have hli : (k : Int) < (n : Int) := by omega
      by_cases he : nm k = s
      · have HF := Lib.hid (fnd_hit HA.out he hlt)
        rw [he] at q0
        clear he
        go_wp2
        go_ret
        exact ⟨ret_int HF.out.symm, Below.refl _ _⟩
      · have HA2 := Lib.hid (show ∀ j, j < k + 1 → nm j ≠ s from fun j hj => by
          rcases Nat.lt_or_ge j k with h' | h'
          · exact HA.out j h'
          · obtain rfl : j = k := by omega
            exact he)
        generalize nm k = t at q0 he
        have hbe := str_ne he
        clear he
        go_wp2
        go_round
        case rel => exact ⟨k + 1, by omega, by go_num, HA2⟩
        case measure => simp [intOf]; omega
    · obtain rfl : k = n := by omega
      have HF := Lib.hid (fnd_none HA.out)
      go_wp2
      go_ret
      exact ⟨ret_int HF.out.symm, Below.refl _ _⟩

/-- A row has a value for each channel, from its Low to its High. -/
def RowP (n : Nat) (fc : Nat → Nat → Dat) (m : Nat) (fv : Nat → Nat → Dat) : Prop := m = n ∧ ∀ q, q < m → dInt (fc q 2) ≤ dInt (fv q 0) ∧ dInt (fv q 0) ≤ dInt (fc q 3)

set_option maxRecDepth 100000 in
set_option maxHeartbeats 2000000 in
theorem row_calls (b o : Nat) (A : Option Addr) (n c : Nat) (fc : Nat → Nat → Dat) (R : Option Addr) (m d : Nat) (fv : Nat → Nat → Dat) (w : World) (hb : b < w.heap.size) (hm : m ≤ maxLen) (hn : n ≤ maxLen) (c0 : w.cell? ⟨b, o, none⟩ = some (.slice A n c))
    (hc : RowsAt w A n 4 fc) (htc : tyChannelS (.sl n 4 fc)) (hr : RowsAt w R m 1 fv) (htr : tyInt64S (.sl m 1 fv)) (v : Bool) (hv : tf (RowP n fc m fv) = v) :
    Calls Try.prog 92 #[.pointer (some ⟨b, o, none⟩), .slice R m d] w fun e w' => e = .returned (.bool v) ∧ Below w.heap.size w w' := by
  have hm' : m ≤ 9223372036854775807 := by unfold maxLen at hm; omega
  have hn' : n ≤ 9223372036854775807 := by unfold maxLen at hn; omega
  have HC := Lib.hid (fun (W : World) (hB : Below w.heap.size w W) => viewChannelS (hc.below hB) htc)
  have HR := Lib.hid (fun (W : World) (hB : Below w.heap.size w W) => viewInt64S (hr.below hB) htr)
  clear hm hn hc htc hr htr
  subst hv
  have hmix := mixedR
  have hund : undef = Value.tuple #[] := rfl
  by_cases e : m = n
  · subst e
    clear hund
    have C0 := Lib.hid c0
    go_enter Try.func92, Try.ntmps92
    go_wp2
    clear c0
    go_loopw [5] (fun i w' => ∃ k : Nat, k ≤ m ∧ i = .int .i64 (k : Int) ∧ Hid (∀ q, q < k → dInt (fc q 2) ≤ dInt (fv q 0) ∧ dInt (fv q 0) ≤ dInt (fc q 3)) ∧ Hid (Below w.heap.size w w')) (fun i _ => m - (intOf i).toNat)
    case atStart => exact ⟨0, Nat.zero_le _, rfl, Lib.hid fun j hj => absurd hj (by omega), Lib.hid (Below.refl _ _)⟩
    case round =>
      obtain ⟨k, hk, rfl, HA, HB⟩ := hrel
      by_cases hlt : k < m
      · obtain ⟨b1, o1, rfl, hl1, -, -, ⟨q2, -⟩, ⟨q3, -⟩⟩ := HC.out wr HB.out k hlt
        obtain ⟨b2, o2, rfl, hl2, ⟨q0, -⟩⟩ := HR.out wr HB.out k hlt
        have hli : (k : Int) < (m : Int) := by omega
        have hbz : b < wr.heap.size := Nat.lt_of_lt_of_le hb HB.out.size
        have q1 := cell_kept hbz ((HB.out.cell (p := ⟨b, o, none⟩) hb).trans C0.out)
        replace q0 := cell_kept hl2 q0
        replace q2 := cell_kept hl1 q2
        replace q3 := cell_kept hl1 q3
        by_cases hok : dInt (fc k 2) ≤ dInt (fv k 0) ∧ dInt (fv k 0) ≤ dInt (fc k 3)
        · have hin := tf_t hok
          have HA2 := Lib.hid (show ∀ q, q < k + 1 → dInt (fc q 2) ≤ dInt (fv q 0) ∧ dInt (fv q 0) ≤ dInt (fc q 3) from fun q hq => by
            rcases Nat.lt_or_ge q k with h' | h'
            · exact HA.out q h'
            · obtain rfl : q = k := by omega
              exact hok)
          clear hok
          generalize dInt (fc k 2) = x at *
          generalize dInt (fc k 3) = y at *
          generalize dInt (fv k 0) = z at *
          go_wp2
          refine wp_region_quiet_kept (by assumption) (by kernel_rfl) ?_
          repeat (first | go_big_quiet_step ((go_at_call 74; exact Calls.kept_of (in_calls _ _ _ _ _ (by assumption)))) | quiet_step ((go_at_call 74; exact Calls.kept_of (in_calls _ _ _ _ _ (by assumption)))))
          refine wpQuiet_nil ?_
          intro w2 hw'
          have hB : Below wr.heap.size wr w2 := by obtain ⟨⟨wk, hb0⟩, hw''⟩ := hw'; rw [hw'']; exact hb0
          have HB2 := Lib.hid (HB.out.trans (hB.mono HB.out.size))
          clear hw' hB q0 q1 q2 q3 hin
          go_wp2
          go_roundw
          case rel => exact ⟨k + 1, by omega, by go_num, HA2, HB2⟩
          case measure => simp [intOf]; omega
        · have hin := tf_f hok
          have HF := Lib.hid (tf_f (P := RowP m fc m fv) fun h => hok (h.2 k hlt))
          clear hok
          generalize dInt (fc k 2) = x at *
          generalize dInt (fc k 3) = y at *
          generalize dInt (fv k 0) = z at *
          go_wp2
          refine wp_region_quiet_kept (by assumption) (by kernel_rfl) ?_
          repeat (first | go_big_quiet_step ((go_at_call 74; exact Calls.kept_of (in_calls _ _ _ _ _ (by assumption)))) | quiet_step ((go_at_call 74; exact Calls.kept_of (in_calls _ _ _ _ _ (by assumption)))))
          refine wpQuiet_nil ?_
          intro w2 hw'
          have hB : Below wr.heap.size wr w2 := by obtain ⟨⟨wk, hb0⟩, hw''⟩ := hw'; rw [hw'']; exact hb0
          have HB2 := Lib.hid (HB.out.trans (hB.mono HB.out.size))
          clear hw' hB q0 q1 q2 q3 hin
          go_wp2
          go_ret
          exact ⟨ret_bool HF.out.symm, HB2.out⟩
      · obtain rfl : k = m := by omega
        have HF := Lib.hid (tf_t (P := RowP k fc k fv) ⟨rfl, HA.out⟩)
        go_wp2
        go_ret
        exact ⟨ret_bool HF.out.symm, HB.out⟩
  · have HF := Lib.hid (tf_f (P := RowP n fc m fv) fun h => e h.1)
    have e1 : ((m : Int) != (n : Int)) = true := by simp; omega
    have e2 : ¬ (m : Int) = (n : Int) := by omega
    go_enter Try.func92, Try.ntmps92
    go_wp2
    go_ret
    exact ⟨ret_bool HF.out.symm, Below.refl _ _⟩

/-- A note names strokes that are there. -/
def PlaceP (ns : Nat) (x y : Int) : Prop := 0 ≤ x ∧ x < y ∧ y ≤ (ns : Int)
set_option maxRecDepth 100000 in
set_option maxHeartbeats 2000000 in
theorem place_calls (b o b' o' : Nat) (A : Option Addr) (ns c : Nat) (x y : Int) (w : World) (hb : b < w.heap.size) (hb' : b' < w.heap.size) (hn : ns ≤ maxLen) (c1 : w.cell? ⟨b, o + 1, none⟩ = some (.slice A ns c)) (n0 : w.cell? ⟨b', o', none⟩ = some (.int .i64 x)) (n1 : w.cell? ⟨b', o' + 1, none⟩ = some (.int .i64 y)) (v : Bool) (hv : tf (PlaceP ns x y) = v) :
    Calls Try.prog 64 #[.pointer (some ⟨b, o, none⟩), .pointer (some ⟨b', o', none⟩)] w fun e w' => e = .returned (.bool v) ∧ Below w.heap.size w w' := by
  have hn' : ns ≤ 9223372036854775807 := by unfold maxLen at hn; omega
  clear hn
  have k1 := cell_kept hb c1
  have k2 := cell_kept hb' n0
  have k3 := cell_kept hb' n1
  clear c1 n0 n1
  have hmix := mixedR
  have hund : undef = Value.tuple #[] := rfl
  have hc : (¬ 0 ≤ x ∧ v = false) ∨ (0 ≤ x ∧ ¬ x < y ∧ v = false) ∨ (0 ≤ x ∧ x < y ∧ ¬ y ≤ (ns : Int) ∧ v = false) ∨ (0 ≤ x ∧ x < y ∧ y ≤ (ns : Int) ∧ v = true) := by
    by_cases h1 : 0 ≤ x
    · by_cases h2 : x < y
      · by_cases h3 : y ≤ (ns : Int)
        · exact .inr (.inr (.inr ⟨h1, h2, h3, by rw [← hv]; exact tf_t ⟨h1, h2, h3⟩⟩))
        · exact .inr (.inr (.inl ⟨h1, h2, h3, by rw [← hv]; exact tf_f fun h => h3 h.2.2⟩))
      · exact .inr (.inl ⟨h1, h2, by rw [← hv]; exact tf_f fun h => h2 h.2.1⟩)
    · exact .inl ⟨h1, by rw [← hv]; exact tf_f fun h => h1 h.1⟩
  clear hv
  rcases hc with ⟨h1, rfl⟩ | ⟨h1, h2, rfl⟩ | ⟨h1, h2, h3, rfl⟩ | ⟨h1, h2, h3, rfl⟩
  · have d1 : decide (0 ≤ x) = false := decide_eq_false h1
    go_enter Try.func64, Try.ntmps64
    go_wp2
    refine wp_region_quiet_kept (by assumption) (by kernel_rfl) ?_
    repeat (first | go_big_quiet_step (fail) | quiet_step (fail))
    refine wpQuiet_nil ?_
    intro w2 hw'
    have hB : Below w.heap.size w w2 := by obtain ⟨⟨wk, hb0⟩, hw''⟩ := hw'; rw [hw'']; exact hb0
    have HB := Lib.hid hB
    clear hw' hB k1 k2 k3
    go_wp2
    go_ret
    exact ⟨rfl, HB.out⟩
  · have d1 : decide (0 ≤ x) = true := decide_eq_true h1
    have d2 : decide (x < y) = false := decide_eq_false h2
    go_enter Try.func64, Try.ntmps64
    go_wp2
    refine wp_region_quiet_kept (by assumption) (by kernel_rfl) ?_
    repeat (first | go_big_quiet_step (fail) | quiet_step (fail))
    refine wpQuiet_nil ?_
    intro w2 hw'
    have hB : Below w.heap.size w w2 := by obtain ⟨⟨wk, hb0⟩, hw''⟩ := hw'; rw [hw'']; exact hb0
    have HB := Lib.hid hB
    clear hw' hB k1 k2 k3
    go_wp2
    go_ret
    exact ⟨rfl, HB.out⟩
  · have d1 : decide (0 ≤ x) = true := decide_eq_true h1
    have d2 : decide (x < y) = true := decide_eq_true h2
    have d3 : decide (y ≤ (ns : Int)) = false := decide_eq_false h3
    go_enter Try.func64, Try.ntmps64
    go_wp2
    refine wp_region_quiet_kept (by assumption) (by kernel_rfl) ?_
    repeat (first | go_big_quiet_step (fail) | quiet_step (fail))
    refine wpQuiet_nil ?_
    intro w2 hw'
    have hB : Below w.heap.size w w2 := by obtain ⟨⟨wk, hb0⟩, hw''⟩ := hw'; rw [hw'']; exact hb0
    have HB := Lib.hid hB
    clear hw' hB k1 k2 k3
    go_wp2
    go_ret
    exact ⟨rfl, HB.out⟩
  · have d1 : decide (0 ≤ x) = true := decide_eq_true h1
    have d2 : decide (x < y) = true := decide_eq_true h2
    have d3 : decide (y ≤ (ns : Int)) = true := decide_eq_true h3
    go_enter Try.func64, Try.ntmps64
    go_wp2
    refine wp_region_quiet_kept (by assumption) (by kernel_rfl) ?_
    repeat (first | go_big_quiet_step (fail) | quiet_step (fail))
    refine wpQuiet_nil ?_
    intro w2 hw'
    have hB : Below w.heap.size w w2 := by obtain ⟨⟨wk, hb0⟩, hw''⟩ := hw'; rw [hw'']; exact hb0
    have HB := Lib.hid hB
    clear hw' hB k1 k2 k3
    go_wp2
    go_ret
    exact ⟨rfl, HB.out⟩
end Go.Proofs.Ytnmlnlcbnjepkaa.fileS
