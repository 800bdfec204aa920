/-
  Proved: what the document's functions return that test samples, find a label, and tell the code of a perceptron and samples.
  Conditions: none.
-/
import Derived.Test.YtimkochgnjggdaaPerW
namespace Go.Proofs.Ytimkochgnjggdaa.smp
open Go.ChangeShapes Go.WideShapes Go.ChangeAt Go.RowKit Go.Joins
open Go.Proofs.Ytimkochgnjggdaa.core Go.Proofs.Ytimkochgnjggdaa.rown Go.Proofs.Ytimkochgnjggdaa.stk Go.Proofs.Ytimkochgnjggdaa.boxed Go.Proofs.Ytimkochgnjggdaa.ft Go.Proofs.Ytimkochgnjggdaa.one1 Go.Proofs.Ytimkochgnjggdaa.lab Go.Proofs.Ytimkochgnjggdaa.per
set_option linter.unusedVariables false
set_option linter.unusedSimpArgs false
/-- A list of samples. -/
def SmAt (w : World) (A : Option Addr) (n : Nat) (lb : Nat → ByteArray) (ln : Nat → Nat) (lf : Nat → Nat → P3) : Prop :=
  ∀ i, i < n → ∃ (b o : Nat) (Ai : Option Addr) (ci : Nat), A = some ⟨b, o, none⟩ ∧ b < w.heap.size ∧ w.cell? ⟨b, o + i * 2, none⟩ = some (.string (lb i)) ∧ w.cell? ⟨b, o + i * 2 + 1, none⟩ = some (.slice Ai (ln i) ci) ∧ PtsAt w Ai (ln i) (lf i)
theorem SmAt.kept {w w' : World} {A : Option Addr} {n : Nat} {lb : Nat → ByteArray} {ln : Nat → Nat} {lf : Nat → Nat → P3} (h : SmAt w A n lb ln lf) (hb : Below w.heap.size w w') : SmAt w' A n lb ln lf := fun i hi => by
  obtain ⟨b, o, Ai, ci, e, h1, h2, h3, h4⟩ := h i hi
  exact ⟨b, o, Ai, ci, e, Nat.lt_of_lt_of_le h1 hb.size, (hb.cell (p := ⟨b, o + i * 2, none⟩) h1).trans h2, (hb.cell (p := ⟨b, o + i * 2 + 1, none⟩) h1).trans h3, h4.kept hb⟩
/-- No length is out of bounds. -/
structure SmL (n : Nat) (lb : Nat → ByteArray) (ln : Nat → Nat) : Prop where
  hn : n ≤ 1048576
  b : ∀ i, i < n → (lb i).size ≤ maxLen
  l : ∀ i, i < n → ln i ≤ 1048576
noncomputable def smB (s : ByteArray) (n : Nat) (f : Nat → P3) : Bool := labB s && okF n f
theorem sm_no {s : ByteArray} {n : Nat} {f : Nat → P3} (h : labB s = false) : smB s n f = false := by unfold smB; rw [h]; rfl
theorem sm_yes {s : ByteArray} {n : Nat} {f : Nat → P3} (h : labB s = true) : smB s n f = okF n f := by unfold smB; rw [h]; rfl
/-- The first place of a text among the first n ones; n if there is none. -/
def fi (s : Nat → ByteArray) (t : ByteArray) : Nat → Nat
  | 0 => 0
  | n + 1 => if fi s t n < n then fi s t n else if s n = t then n else n + 1
theorem fi_le (s : Nat → ByteArray) (t : ByteArray) : ∀ n, fi s t n ≤ n
  | 0 => Nat.le_refl _
  | n + 1 => by
    unfold fi
    split
    · omega
    · split <;> omega
theorem fi_first (s : Nat → ByteArray) (t : ByteArray) : ∀ n i, i < fi s t n → s i ≠ t
  | 0, i, hi => absurd hi (by unfold fi; omega)
  | n + 1, i, hi => by
    have hl := fi_le s t n
    unfold fi at hi
    split at hi
    · exact fi_first s t n i hi
    · rename_i h
      split at hi
      · exact fi_first s t n i (by omega)
      · rename_i h2
        rcases Nat.lt_or_ge i n with h' | h'
        · exact fi_first s t n i (by omega)
        · obtain rfl : i = n := by omega
          exact h2
theorem fi_hit (s : Nat → ByteArray) (t : ByteArray) : ∀ n, fi s t n < n → s (fi s t n) = t
  | 0, h => absurd h (by omega)
  | n + 1, h => by
    unfold fi at h ⊢
    by_cases h1 : fi s t n < n
    · rw [if_pos h1]
      exact fi_hit s t n h1
    · rw [if_neg h1] at h ⊢
      by_cases h2 : s n = t
      · rw [if_pos h2]
        exact h2
      · rw [if_neg h2] at h
        omega
theorem fi_at {s : Nat → ByteArray} {t : ByteArray} {n i : Nat} (hi : i < n) (hs : s i = t) (hno : ∀ j, j < i → s j ≠ t) : fi s t n = i := by
  have h1 : fi s t n ≤ i := by
    rcases Nat.lt_or_ge i (fi s t n) with h | h
    · exact absurd hs (fi_first s t n i h)
    · exact h
  rcases Nat.lt_or_ge (fi s t n) i with h | h
  · exact absurd (fi_hit s t n (by omega)) (hno _ h)
  · omega
theorem fi_none {s : Nat → ByteArray} {t : ByteArray} {n : Nat} (hno : ∀ j, j < n → s j ≠ t) : fi s t n = n := by
  have := fi_le s t n
  rcases Nat.lt_or_ge (fi s t n) n with h | h
  · exact absurd (fi_hit s t n h) (hno _ h)
  · omega
/-- The code of a perceptron with n labels, and N samples. -/
noncomputable def cdC (v : Bool) (n : Nat) (s : Nat → ByteArray) (N : Nat) (lb : Nat → ByteArray) (ln : Nat → Nat) (lf : Nat → Nat → P3) : Int :=
  @ite _ (v = true ∧ ∀ i, i < N → smB (lb i) (ln i) (lf i) = true) (Classical.propDecidable _) (@ite _ (∀ i, i < N → fi s (lb i) n < n) (Classical.propDecidable _) (if N ≤ 40 then 0 else 2) 3) 1
section
variable {v : Bool} {n N : Nat} {s lb : Nat → ByteArray} {ln : Nat → Nat} {lf : Nat → Nat → P3}
theorem cd_inv (h : ¬ (v = true ∧ ∀ i, i < N → smB (lb i) (ln i) (lf i) = true)) : cdC v n s N lb ln lf = 1 := by unfold cdC; rw [@if_neg _ _ h]
theorem cd_not (h : v = true ∧ ∀ i, i < N → smB (lb i) (ln i) (lf i) = true) (h2 : ¬ ∀ i, i < N → fi s (lb i) n < n) : cdC v n s N lb ln lf = 3 := by unfold cdC; rw [@if_pos _ _ h, @if_neg _ _ h2]
theorem cd_rng (h : v = true ∧ ∀ i, i < N → smB (lb i) (ln i) (lf i) = true) (h2 : ∀ i, i < N → fi s (lb i) n < n) (h3 : ¬ N ≤ 40) : cdC v n s N lb ln lf = 2 := by unfold cdC; rw [@if_pos _ _ h, @if_pos _ _ h2, if_neg h3]
theorem cd_ok (h : v = true ∧ ∀ i, i < N → smB (lb i) (ln i) (lf i) = true) (h2 : ∀ i, i < N → fi s (lb i) n < n) (h3 : N ≤ 40) : cdC v n s N lb ln lf = 0 := by unfold cdC; rw [@if_pos _ _ h, @if_pos _ _ h2, if_pos h3]
theorem cd_of (h : cdC v n s N lb ln lf = 0) : v = true ∧ (∀ i, i < N → smB (lb i) (ln i) (lf i) = true) ∧ (∀ i, i < N → fi s (lb i) n < n) ∧ N ≤ 40 := by
  by_cases h1 : v = true ∧ ∀ i, i < N → smB (lb i) (ln i) (lf i) = true
  · by_cases h2 : ∀ i, i < N → fi s (lb i) n < n
    · by_cases h3 : N ≤ 40
      · exact ⟨h1.1, h1.2, h2, h3⟩
      · rw [cd_rng h1 h2 h3] at h; omega
    · rw [cd_not h1 h2] at h; omega
  · rw [cd_inv h1] at h; omega
theorem cd_any (v : Bool) (n : Nat) (s : Nat → ByteArray) (N : Nat) (lb : Nat → ByteArray) (ln : Nat → Nat) (lf : Nat → Nat → P3) : cdC v n s N lb ln lf = 0 ∨ cdC v n s N lb ln lf = 1 ∨ cdC v n s N lb ln lf = 2 ∨ cdC v n s N lb ln lf = 3 := by
  unfold cdC
  split
  · split
    · split <;> omega
    · omega
  · omega
end
set_option maxRecDepth 100000 in
set_option maxHeartbeats 2000000 in
theorem sampleS {c : Nat} (b o : Nat) (s : ByteArray) (A : Option Addr) (n : Nat) (f : Nat → P3) (w : World) (hb : b < w.heap.size) (c0 : w.cell? ⟨b, o, none⟩ = some (.string s)) (c1 : w.cell? ⟨b, o + 1, none⟩ = some (.slice A n c)) (hs : s.size ≤ maxLen) (hn : n ≤ 1048576) (hp : PtsAt w A n f) :
    Calls Try.prog 113 #[.pointer (some ⟨b, o, none⟩)] w fun e w' => e = .returned (.bool (smB s n f)) ∧ Below w.heap.size w w' := by
  have hund : undef = Value.tuple #[] := rfl
  have HL := Lib.hid (fun W => isLabS s W hs)
  have HF := Lib.hid (okS (c := c) A n f w hn hp)
  clear hp
  cases hv : labB s with
  | false =>
    rw [sm_no hv]
    rw [hv] at HL
    clear hv
    go_enter Try.func113, Try.ntmps113
    go_wp2_with fail
    with_reducible refine (HL.out _).mono ?_
    rintro e _ ⟨rfl, rfl⟩
    go_wp2
    go_ret
    exact ⟨rfl, Below.refl _ _⟩
  | true =>
    rw [sm_yes hv]
    rw [hv] at HL
    clear hv hund
    generalize okF n f = r at *
    go_enter Try.func113, Try.ntmps113
    go_wp2_with fail
    with_reducible refine (HL.out _).mono ?_
    rintro e _ ⟨rfl, rfl⟩
    go_wp2_with fail
    with_reducible refine HF.out.mono ?_
    rintro e w1 ⟨rfl, hb1⟩
    have HB := Lib.hid hb1
    clear hb1
    go_wp2
    go_ret
    exact ⟨rfl, HB.out⟩
theorem str_ne {s t : ByteArray} (h : s ≠ t) : (s.toList == t.toList) = false := by
  rw [beq_eq_false_iff_ne]
  intro e
  rw [ByteArray.toList_eq, ByteArray.toList_eq] at e
  apply h
  have : s.data = t.data := Array.toList_inj.1 e
  cases s; cases t; simp at this; rw [this]
/-- Where a text is, as both programs tell it. -/
def fiZ (s : Nat → ByteArray) (t : ByteArray) (n : Nat) : Int := if fi s t n < n then ((fi s t n : Nat) : Int) else -1
set_option maxRecDepth 100000 in
set_option maxHeartbeats 2000000 in
theorem findS {c : Nat} (b o : Nat) (A : Option Addr) (n : Nat) (s : Nat → ByteArray) (t : ByteArray) (w : World) (hb : b < w.heap.size) (c0 : w.cell? ⟨b, o, none⟩ = some (.slice A n c)) (hn : n ≤ 1048576) (hp : SsAt w A n s) :
    Calls Try.prog 114 #[.pointer (some ⟨b, o, none⟩), .string t] w fun e w' => e = .returned (.int .i64 (fiZ s t n)) ∧ w = w' := by
  have HP := Lib.hid hp
  clear hp
  go_enter Try.func114, Try.ntmps114
  go_wp2
  go_loop [5] (fun i => ∃ k : Nat, k ≤ n ∧ i = .int .i64 (k : Int) ∧ Hid (∀ j, j < k → s j ≠ t)) (fun i => n - (intOf i).toNat)
  case atStart => exact ⟨0, Nat.zero_le _, rfl, Lib.hid (fun j hj => absurd hj (by omega))⟩
  case round =>
    obtain ⟨k, hk, rfl, HE⟩ := hrel
    by_cases hlt : k < n
    · obtain ⟨b1, o1, rfl, hb1, p0⟩ := HP.out k hlt
      have hli : (k : Int) < (n : Int) := by omega
      have HN := Lib.hid (fun (h : s k ≠ t) => all_next (P := fun j => s j ≠ t) HE.out h)
      have HA := Lib.hid (fun (h : s k = t) => fi_at hlt h HE.out)
      obtain ⟨x, hx⟩ : ∃ x, s k = x := ⟨_, rfl⟩
      rw [hx] at p0 HN HA
      clear hx
      by_cases e : x = t
      · subst e
        have HF := Lib.hid (show fiZ s x n = (k : Int) by unfold fiZ; rw [HA.out rfl, if_pos hlt])
        have hne2 : (x.toList == x.toList) = true := by simp
        go_wp2
        go_ret
        exact ⟨by rw [HF.out]; rfl, rfl⟩
      · have hne2 := str_ne e
        have HE2 := Lib.hid (HN.out e)
        go_wp2
        go_round
        case rel => exact ⟨k + 1, by omega, by go_num, HE2⟩
        case measure => simp [intOf]; omega
    · obtain rfl : k = n := by omega
      have HF := Lib.hid (show fiZ s t k = -1 by unfold fiZ; rw [fi_none HE.out, if_neg (by omega)])
      go_wp2
      go_ret
      exact ⟨by rw [HF.out]; rfl, rfl⟩
set_option maxRecDepth 100000 in
set_option maxHeartbeats 4000000 in
theorem codeS {c d cs : Nat} (b0 q : Nat) (A B L : Option Addr) (n m N : Nat) (s : Nat → ByteArray) (wn : Nat → Nat) (wf : Nat → Nat → Int) (lb : Nat → ByteArray) (ln : Nat → Nat) (lf : Nat → Nat → P3) (w : World) (hb0 : b0 < w.heap.size) (c0 : w.cell? ⟨b0, q, none⟩ = some (.slice A n c)) (c1 : w.cell? ⟨b0, q + 1, none⟩ = some (.slice B m d)) (hl : PeL n m s wn) (hs : SmL N lb ln) (hp : SsAt w A n s) (hq : WsAt w B m wn wf) (hr : SmAt w L N lb ln lf) :
    Calls Try.prog 86 #[.pointer (some ⟨b0, q, none⟩), .slice L N cs] w fun e w' => e = .returned (.int .i64 (cdC (peB n m s wn wf) n s N lb ln lf)) ∧ Below w.heap.size w w' := by
  have HO := Lib.hid (okPS (c := c) (d := d) b0 q A B n m s wn wf w hb0 c0 c1 hl hp hq)
  have HP := Lib.hid hp
  have HR := Lib.hid hr
  have HS := Lib.hid hs
  have hN := hs.hn
  have hn := hl.hn
  have C0 := Lib.hid c0
  clear hp hq hr hs hl c0 c1
  cases hv : peB n m s wn wf with
  | false =>
    rw [hv] at HO
    rw [cd_inv (fun h => by cases h.1)]
    clear hv
    go_enter Try.func86, Try.ntmps86
    go_wp2_with fail
    refine HO.out.mono ?_
    rintro e w1 ⟨rfl, hb⟩
    have HB := Lib.hid hb
    clear hb
    go_wp2
    go_ret
    exact ⟨rfl, HB.out⟩
  | true =>
    rw [hv] at HO
    clear hv
    go_enter Try.func86, Try.ntmps86
    go_wp2_with fail
    refine HO.out.mono ?_
    rintro e w1 ⟨rfl, hb⟩
    have HB1 := Lib.hid hb
    clear hb HO
    go_wp2
    go_loopw [5] (fun i w' => ∃ k : Nat, k ≤ N ∧ i = .int .i64 (k : Int) ∧ Hid (∀ j, j < k → smB (lb j) (ln j) (lf j) = true) ∧ Hid (Below w.heap.size w w')) (fun i _ => N - (intOf i).toNat)
    case atStart => exact ⟨0, Nat.zero_le _, rfl, Lib.hid (fun j hj => absurd hj (by omega)), HB1⟩
    case round =>
      obtain ⟨k, hk, rfl, HE, HB⟩ := hrel
      by_cases hlt : k < N
      · obtain ⟨b1, o1, Ai, ci, rfl, hb1, p0, p1, hq⟩ := (HR.out.kept HB.out) k hlt
        have hli : (k : Int) < (N : Int) := by omega
        have HI := Lib.hid (sampleS (c := ci) b1 (o1 + k * 2) (lb k) Ai (ln k) (lf k) wr hb1 p0 p1 (HS.out.b k hlt) (HS.out.l k hlt) hq)
        cases hi : smB (lb k) (ln k) (lf k) with
        | true =>
          have HE2 := Lib.hid (show ∀ j, j < k + 1 → smB (lb j) (ln j) (lf j) = true from all_next HE.out hi)
          rw [hi] at HI
          clear hi hq HE p0 p1
          go_wp2_with fail
          refine HI.out.mono ?_
          rintro e w2 ⟨rfl, hb2⟩
          have HB2 := Lib.hid (HB.out.trans (hb2.mono HB.out.size))
          clear hb2 HI
          go_wp2
          go_roundw
          case rel => exact ⟨k + 1, by omega, by go_num, HE2, HB2⟩
          case measure => simp [intOf]; omega
        | false =>
          have HF := Lib.hid (cd_inv (v := true) (n := n) (s := s) (fun h : (true = true ∧ ∀ i, i < N → smB (lb i) (ln i) (lf i) = true) => by have := h.2 k hlt; rw [hi] at this; cases this))
          rw [hi] at HI
          clear hi hq HE p0 p1
          go_wp2_with fail
          refine HI.out.mono ?_
          rintro e w2 ⟨rfl, hb2⟩
          have HB2 := Lib.hid (HB.out.trans (hb2.mono HB.out.size))
          clear hb2 HI
          go_wp2
          go_ret
          exact ⟨by rw [HF.out]; rfl, HB2.out⟩
      · obtain rfl : k = N := by omega
        have HA := Lib.hid HE.out
        have HBB := HB
        clear HE HB
        go_wp2
        go_loopw [6] (fun i w' => ∃ j : Nat, j ≤ k ∧ i = .int .i64 (j : Int) ∧ Hid (∀ i, i < j → fi s (lb i) n < n) ∧ Hid (Below w.heap.size w w')) (fun i _ => k - (intOf i).toNat)
        case atStart => exact ⟨0, Nat.zero_le _, rfl, Lib.hid (fun j hj => absurd hj (by omega)), HBB⟩
        case round =>
          obtain ⟨j, hj, rfl, HE, HB⟩ := hrel
          by_cases hlt2 : j < k
          · obtain ⟨b1, o1, Ai, ci, rfl, hb1, p0, p1, hq⟩ := (HR.out.kept HB.out) j hlt2
            have hji : (j : Int) < (k : Int) := by omega
            have q0 := (HB.out.cell (p := ⟨b0, q, none⟩) hb0).trans C0.out
            have hbr := Nat.lt_of_lt_of_le hb0 HB.out.size
            have HI := Lib.hid (findS b0 q A n s (lb j) wr hbr q0 hn (HP.out.kept HB.out))
            have hfl := fi_le s (lb j) n
            have HZ := Lib.hid (show fiZ s (lb j) n = if fi s (lb j) n < n then ((fi s (lb j) n : Nat) : Int) else -1 from rfl)
            have HEN := Lib.hid (fun (h : fi s (lb j) n < n) => all_next (P := fun i => fi s (lb i) n < n) HE.out h)
            have HEF := Lib.hid (fun (h : ¬ fi s (lb j) n < n) => cd_not (v := true) (n := n) (s := s) ⟨rfl, HA.out⟩ (fun h' => h (h' j hlt2)))
            obtain ⟨x, hx⟩ : ∃ x, fi s (lb j) n = x := ⟨_, rfl⟩
            rw [hx] at HZ HEN HEF hfl
            obtain ⟨z, hz⟩ : ∃ z, fiZ s (lb j) n = z := ⟨_, rfl⟩
            rw [hz] at HZ HI
            clear hx hz hq p1 q0
            by_cases h : x < n
            · have hz0 : z = (x : Int) := by rw [HZ.out, if_pos h]
              subst hz0
              have HE2 := Lib.hid (HEN.out h)
              go_wp2_with fail
              with_reducible refine HI.out.mono ?_
              rintro e _ ⟨rfl, rfl⟩
              go_wp2
              go_roundw
              case rel => exact ⟨j + 1, by omega, by go_num, HE2, HB⟩
              case measure => simp [intOf]; omega
            · have hz0 : z = -1 := by rw [HZ.out, if_neg h]
              subst hz0
              have HF := Lib.hid (HEF.out h)
              go_wp2_with fail
              with_reducible refine HI.out.mono ?_
              rintro e _ ⟨rfl, rfl⟩
              go_wp2
              go_ret
              exact ⟨by rw [HF.out]; rfl, HB.out⟩
          · obtain rfl : j = k := by omega
            by_cases h40 : j ≤ 40
            · have h1 : ¬ (40 : Int) < (j : Int) := by omega
              have d1 : decide ((40 : Int) < (j : Int)) = false := decide_eq_false h1
              have HF := Lib.hid (cd_ok (v := true) ⟨rfl, HA.out⟩ HE.out h40)
              go_wp2
              go_ret
              exact ⟨by rw [HF.out]; rfl, HB.out⟩
            · have h1 : (40 : Int) < (j : Int) := by omega
              have HF := Lib.hid (cd_rng (v := true) ⟨rfl, HA.out⟩ HE.out h40)
              go_wp2
              go_ret
              exact ⟨by rw [HF.out]; rfl, HB.out⟩
end Go.Proofs.Ytimkochgnjggdaa.smp
