/-
  Proved: the parts of a text between blanks, bytes apart, are the fields that strings.FieldsFunc finds rune by rune.
  Conditions: none.
-/
import Derived.Lib.FieldsP
import Derived.Test.YtpkofhchijpbeaaSegs
namespace Go.Proofs.Ytpkofhchijpbeaa.words
open Go.Lib
set_option linter.unusedVariables false

theorem dec_blank (n b0 b1 b2 b3 : Nat) : (decodeN n b0 b1 b2 b3).1 = 32 → b0 = 32 ∧ (decodeN n b0 b1 b2 b3).2 = 1 := by
  unfold decodeN
  repeat' split
  all_goals (intro h; first | omega | (simp only at h ⊢; omega))
theorem dec_other (n b0 b1 b2 b3 : Nat) : (decodeN n b0 b1 b2 b3).1 ≠ 32 → b0 ≠ 32 ∧ (2 ≤ (decodeN n b0 b1 b2 b3).2 → b1 ≠ 32) ∧ (3 ≤ (decodeN n b0 b1 b2 b3).2 → b2 ≠ 32) ∧ (4 ≤ (decodeN n b0 b1 b2 b3).2 → b3 ≠ 32) ∧ (decodeN n b0 b1 b2 b3).2 ≤ 4 ∧ 1 ≤ (decodeN n b0 b1 b2 b3).2 := by
  unfold decodeN
  repeat' split
  all_goals (simp only; omega)

abbrev blank (r : Nat) : Bool := decide (r = 32)
def step (s : ByteArray) (i : Nat) (x : List (Nat × Nat) × Option Nat) : List (Nat × Nat) × Option Nat :=
  if (s.get! i).toNat = 32 then
    (match x.2 with
     | some a => (x.1 ++ [(a, i)], none)
     | none => (x.1, none))
  else
    (match x.2 with
     | some a => (x.1, some a)
     | none => (x.1, some i))
/-- The fields of the first i bytes, byte by byte. -/
def bf (s : ByteArray) : Nat → List (Nat × Nat) × Option Nat
  | 0 => ([], none)
  | i + 1 => step s i (bf s i)
theorem bf_run (s : ByteArray) (pos : Nat) (acc : List (Nat × Nat)) (st : Option Nat) (h : bf s pos = (acc, st)) : ∀ k, (∀ j, j < k + 1 → (s.get! (pos + j)).toNat ≠ 32) → bf s (pos + (k + 1)) = (acc, some (st.getD pos)) := by
  intro k
  induction k with
  | zero =>
    intro hb
    have h0 := hb 0 (by omega)
    simp only [Nat.add_zero] at h0
    show step s pos (bf s pos) = _
    rw [h]
    unfold step
    rw [if_neg h0]
    cases st <;> rfl
  | succ k ih =>
    intro hb
    have h1 := ih fun j hj => hb j (by omega)
    show step s (pos + (k + 1)) (bf s (pos + (k + 1))) = _
    rw [h1]
    unfold step
    rw [if_neg (hb (k + 1) (by omega))]
theorem spans_bf (s : ByteArray) : ∀ (f pos : Nat) (st : Option Nat) (acc : List (Nat × Nat)), bf s pos = (acc, st) → s.size ≤ pos + f → pos ≤ s.size → spansFromP blank s f pos st acc = bf s s.size := by
  intro f
  induction f with
  | zero =>
    intro pos st acc h h1 h2
    obtain rfl : pos = s.size := by omega
    rw [h]
    rfl
  | succ f ih =>
    intro pos st acc h h1 h2
    by_cases hlt : pos < s.size
    · have hd := decode_at s pos
      have hwn := decodeN_le_n' (s.size - pos) (s.get! pos).toNat (s.get! (pos + 1)).toNat (s.get! (pos + 2)).toNat (s.get! (pos + 3)).toNat (by omega)
      unfold spansFromP
      rw [if_pos hlt]
      by_cases hR : (Utf8.decode s pos).1 = 32
      · have hb := dec_blank _ _ _ _ _ (by rw [← hd]; exact hR)
        rw [← hd] at hb
        rw [if_pos (by simpa [blank] using hR), hb.2]
        have hs : bf s (pos + 1) = step s pos (acc, st) := by
          show step s pos (bf s pos) = _
          rw [h]
        unfold step at hs
        rw [if_pos hb.1] at hs
        cases st with
        | none => exact ih (pos + 1) none acc hs (by omega) (by omega)
        | some a => exact ih (pos + 1) none _ hs (by omega) (by omega)
      · have hb := dec_other _ _ _ _ _ (by rw [← hd]; exact hR)
        rw [← hd] at hb hwn
        obtain ⟨b0, b1, b2, b3, hle, hge⟩ := hb
        rw [if_neg (by simpa [blank] using hR)]
        generalize (Utf8.decode s pos).2 = K at *
        obtain ⟨k, rfl⟩ : ∃ k, K = k + 1 := ⟨K - 1, by omega⟩
        have hr := bf_run s pos acc st h k fun j hj => by
          match j, hj with
          | 0, _ => exact b0
          | 1, hj => exact b1 (by omega)
          | 2, hj => exact b2 (by omega)
          | 3, hj => exact b3 (by omega)
          | j + 4, hj => omega
        cases st with
        | none => exact ih _ (some pos) acc hr (by omega) (by omega)
        | some a => exact ih _ (some a) acc hr (by omega) (by omega)
    · rw [spansFromP_end _ _ _ _ _ _ hlt]
      obtain rfl : pos = s.size := by omega
      exact h.symm

theorem sp_bf (s : ByteArray) (i : Nat) : (sp s i).1.filter (fun x => decide (x.1 < x.2)) = (bf s i).1 ∧ (bf s i).2 = (if (sp s i).2 < i then some (sp s i).2 else none) := by
  induction i with
  | zero => simp [sp, bf]
  | succ i ih =>
    have hle := (sp_le s i).1
    unfold sp bf step
    by_cases hb : (s.get! i).toNat = 32
    · rw [if_pos hb, if_pos hb, ih.2]
      by_cases hl : (sp s i).2 < i
      · simp [hl, ih.1]
      · simp [hl, ih.1]
    · rw [if_neg hb, if_neg hb, ih.2]
      by_cases hl : (sp s i).2 < i
      · have h2 : (sp s i).2 < i + 1 := by omega
        simp [hl, h2, ih.1]
      · have h2 : (sp s i).2 = i := by omega
        simp [h2, ih.1]
theorem wordsOf_eq (s : ByteArray) : wordsOf s = goFieldsP blank s := by
  have h1 : spansFromP blank s s.size 0 none [] = bf s s.size := spans_bf s s.size 0 none [] rfl (by omega) (by omega)
  have h2 : spansOfP blank s = (segs s).filter fun x => decide (x.1 < x.2) := by
    unfold spansOfP
    rw [h1]
    unfold closeSpans segs
    rw [(sp_bf s s.size).2, List.filter_append, (sp_bf s s.size).1]
    by_cases hl : (sp s s.size).2 < s.size
    · simp [hl]
    · simp [hl]
  unfold goFieldsP wordsOf cuts
  rw [h2, List.filter_map]
  congr 1
  apply List.filter_congr
  intro x hx
  have := segs_le s x hx
  simp only [Function.comp, ByteArray.size_extract]
  have e : (min x.2 s.size - x.1 ≠ 0) ↔ (x.1 < x.2) := by omega
  simp only [e]
end Go.Proofs.Ytpkofhchijpbeaa.words
