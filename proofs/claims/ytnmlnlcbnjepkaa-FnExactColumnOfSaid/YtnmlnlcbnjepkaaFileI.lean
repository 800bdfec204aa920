/-
  Proved: what the program's functions that ask whether the channels of a file are valid return (contracts of callees of the exact laws of chapter 3).
  Conditions: the channels are read out of memory.
-/
import Derived.Test.YtnmlnlcbnjepkaaFileOk
import Derived.Maps.OwnSet
import Derived.Maps.Own
namespace Go.Proofs.Ytnmlnlcbnjepkaa.fileI
open Go.ChangeShapes Go.WideShapes Go.ChangeAt Go.RowKit Go.Joins Go.WideMaps Go.Maps
open Go.Proofs.Ytnmlnlcbnjepkaa.core Go.Proofs.Ytnmlnlcbnjepkaa.names Go.Proofs.Ytnmlnlcbnjepkaa.fileS
set_option linter.unusedVariables false
set_option linter.unusedSimpArgs false

theorem nameI_b (s : ByteArray) (w : World) (hs : s.size ≤ maxLen) (v : Bool) (hv : nameB s = v) : Calls Try.prog 69 #[.string s] w fun e w' => e = .returned (.bool v) ∧ Below w.heap.size w w' :=
  (isName_impl s w hs).mono fun _ _ ⟨he, hw⟩ => ⟨by rw [he, hv], hw⟩

set_option maxRecDepth 100000 in
set_option maxHeartbeats 2000000 in
theorem chValid_calls (s u : ByteArray) (lo hi : Int) (w : World) (hs : s.size ≤ maxLen) (hu : u.size ≤ maxLen) (v : Bool) (hv : tf (ChP s u lo hi) = v) :
    Calls Try.prog 153 #[.agg #[.string s, .string u, .int .i64 lo, .int .i64 hi]] w fun e w' => e = .returned (.bool v) ∧ Below w.heap.size w w' := by
  have hc : (nameB s = false ∧ v = false) ∨ (nameB s = true ∧ nameB u = false ∧ v = false) ∨ (nameB s = true ∧ nameB u = true ∧ ¬ -1000000000 ≤ lo ∧ v = false) ∨ (nameB s = true ∧ nameB u = true ∧ -1000000000 ≤ lo ∧ ¬ lo < hi ∧ v = false) ∨ (nameB s = true ∧ nameB u = true ∧ -1000000000 ≤ lo ∧ lo < hi ∧ ¬ hi ≤ 1000000000 ∧ v = false) ∨ (nameB s = true ∧ nameB u = true ∧ -1000000000 ≤ lo ∧ lo < hi ∧ hi ≤ 1000000000 ∧ v = true) := by
    have ht : ChP s u lo hi → v = true := fun h => by rw [← hv]; exact tf_t h
    have hf : ¬ ChP s u lo hi → v = false := fun h => by rw [← hv]; exact tf_f h
    cases h1 : nameB s
    · exact .inl ⟨rfl, hf fun h => absurd (h1.symm.trans h.1) (by simp)⟩
    · cases h2 : nameB u
      · exact .inr (.inl ⟨rfl, rfl, hf fun h => absurd (h2.symm.trans h.2.1) (by simp)⟩)
      · by_cases h3 : -1000000000 ≤ lo
        · by_cases h4 : lo < hi
          · by_cases h5 : hi ≤ 1000000000
            · exact .inr (.inr (.inr (.inr (.inr ⟨rfl, rfl, h3, h4, h5, ht ⟨h1, h2, h3, h4, h5⟩⟩))))
            · exact .inr (.inr (.inr (.inr (.inl ⟨rfl, rfl, h3, h4, h5, hf fun h => h5 h.2.2.2.2⟩))))
          · exact .inr (.inr (.inr (.inl ⟨rfl, rfl, h3, h4, hf fun h => h4 h.2.2.2.1⟩)))
        · exact .inr (.inr (.inl ⟨rfl, rfl, h3, hf fun h => h3 h.2.2.1⟩))
  clear hv
  have C0 : ∀ W, Below (w.alloc (.cells #[.string s, .string u, .int .i64 lo, .int .i64 hi] 98)).heap.size (w.alloc (.cells #[.string s, .string u, .int .i64 lo, .int .i64 hi] 98)) W →
      W.cell? ⟨w.heap.size, 1, none⟩ = some (.string u) ∧ W.cell? ⟨w.heap.size, 2, none⟩ = some (.int .i64 lo) ∧ W.cell? ⟨w.heap.size, 3, none⟩ = some (.int .i64 hi) ∧ w.heap.size < W.heap.size := fun W hB => by
    have z := hB.size
    simp at z
    exact ⟨(hB.cell (p := ⟨w.heap.size, 1, none⟩) (by simp)).trans (by simp), (hB.cell (p := ⟨w.heap.size, 2, none⟩) (by simp)).trans (by simp), (hB.cell (p := ⟨w.heap.size, 3, none⟩) (by simp)).trans (by simp), by omega⟩
  have HC0 := Lib.hid C0
  clear C0
  rcases hc with ⟨h1, rfl⟩ | ⟨h1, h2, rfl⟩ | ⟨h1, h2, h3, rfl⟩ | ⟨h1, h2, h3, h4, rfl⟩ | ⟨h1, h2, h3, h4, h5, rfl⟩ | ⟨h1, h2, h3, h4, h5, rfl⟩
  · have H1 := Lib.hid h1
    clear h1
    go_enter Try.func153, Try.ntmps153
    go_wp2_with fail
    refine (nameI_b s _ hs _ H1.out).mono ?_
    rintro e w1 ⟨rfl, hb⟩
    have HB := Lib.hid ((below_alloc1 w _).trans (hb.mono (below_alloc1 w _).size))
    clear hb
    go_wp2
    go_ret
    exact ⟨rfl, HB.out⟩
  all_goals
    have H1 := Lib.hid h1
    have H2 := Lib.hid h2
    clear h1 h2
    (try have d3 : decide (-1000000000 ≤ lo) = false := decide_eq_false (by assumption))
    (try have d3 : decide (-1000000000 ≤ lo) = true := decide_eq_true (by assumption))
    (try have d4 : decide (lo < hi) = false := decide_eq_false (by assumption))
    (try have d4 : decide (lo < hi) = true := decide_eq_true (by assumption))
    (try have d5 : decide (hi ≤ 1000000000) = false := decide_eq_false (by assumption))
    (try have d5 : decide (hi ≤ 1000000000) = true := decide_eq_true (by assumption))
    go_enter Try.func153, Try.ntmps153
    go_wp2_with fail
    refine (nameI_b s _ hs _ H1.out).mono ?_
    rintro e w1 ⟨rfl, hb⟩
    have HB := Lib.hid ((below_alloc1 w _).trans (hb.mono (below_alloc1 w _).size))
    obtain ⟨c1, c2, c3, lz⟩ := HC0.out _ hb
    have HB0 := Lib.hid hb
    clear hb
    go_wp2_with fail
    refine (nameI_b u _ hu _ H2.out).mono ?_
    rintro e w2 ⟨rfl, hb⟩
    have HB2 := Lib.hid (HB.out.trans (hb.mono HB.out.size))
    clear c1 c2 c3 lz
    obtain ⟨c1, c2, c3, lz⟩ := HC0.out _ (HB0.out.trans (hb.mono HB0.out.size))
    clear hb
    go_wp2
    go_ret
    exact ⟨rfl, HB2.out⟩

/-- The last place of each of the first k names. -/
def PL (nm : Nat → ByteArray) : Nat → DataW Unit
  | 0 => .map []
  | k + 1 => (PL nm k).put (.string (nm k).data.toList) (.lit (.int .i64 (k : Int)))
theorem key_lit (s : ByteArray) : WideAt.IsKeyLit (.string s.data.toList) := by simp [WideAt.IsKeyLit]
theorem PL_tidy (nm : Nat → ByteArray) (k : Nat) : Tidy (PL nm k) := by
  induction k with
  | zero => exact tidy_empty
  | succ k ih => exact ih.put (key_lit _) _
theorem lit_ne {s t : ByteArray} (h : ¬ s = t) : (Lit.string s.data.toList) ≠ .string t.data.toList := fun e => by
  injection e with e
  exact absurd (show s.toList = t.toList by rw [ByteArray.toList_eq, ByteArray.toList_eq, e]) (by have := str_ne h; simpa using this)
theorem PL_has (nm : Nat → ByteArray) (t : ByteArray) (k : Nat) : has (PL nm k) (.string t.data.toList) = true ↔ ∃ i, i < k ∧ nm i = t := by
  induction k with
  | zero => simp [PL, has]
  | succ k ih =>
    by_cases e : nm k = t
    · constructor
      · intro _; exact ⟨k, by omega, e⟩
      · intro _
        simp only [PL, e]
        exact has_put_same (PL_tidy nm k).isMap (key_lit t) _
    · simp only [PL]
      rw [has_put_other (lit_ne fun h => e h.symm), ih]
      constructor
      · rintro ⟨i, hi, h⟩; exact ⟨i, by omega, h⟩
      · rintro ⟨i, hi, h⟩
        refine ⟨i, ?_, h⟩
        rcases Nat.lt_or_ge i k with h' | h'
        · exact h'
        · obtain rfl : i = k := by omega
          exact absurd h e
theorem PL_size_le (nm : Nat → ByteArray) (k : Nat) : size (PL nm k) ≤ k := by
  induction k with
  | zero => simp [PL, size]
  | succ k ih =>
    simp only [PL]
    rw [size_put (PL_tidy nm k)]
    split <;> omega
/-- The names are different. -/
def Dst (nm : Nat → ByteArray) (k : Nat) : Prop := ∀ i j, i < k → j < k → nm i = nm j → i = j
theorem PL_size (nm : Nat → ByteArray) (k : Nat) : size (PL nm k) = k ↔ Dst nm k := by
  induction k with
  | zero => simp [PL, size, Dst]
  | succ k ih =>
    have hle := PL_size_le nm k
    simp only [PL]
    rw [size_put (PL_tidy nm k)]
    constructor
    · intro h
      have hn : ¬ has (PL nm k) (.string (nm k).data.toList) = true := fun hh => by rw [if_pos hh] at h; omega
      rw [if_neg hn] at h
      have hd := ih.1 (by omega)
      have hno : ∀ i, i < k → nm i ≠ nm k := fun i hi e => hn ((PL_has nm (nm k) k).2 ⟨i, hi, e⟩)
      intro i j hi hj e
      by_cases h1 : i = k <;> by_cases h2 : j = k
      · omega
      · subst h1; exact absurd e.symm (hno j (by omega))
      · subst h2; exact absurd e (hno i (by omega))
      · exact hd i j (by omega) (by omega) e
    · intro h
      have hn : ¬ has (PL nm k) (.string (nm k).data.toList) = true := fun hh => by
        obtain ⟨i, hi, e⟩ := (PL_has nm (nm k) k).1 hh
        have := h i k (by omega) (by omega) e
        omega
      rw [if_neg hn, ih.2 fun i j hi hj e => h i j (by omega) (by omega) e]
theorem dst_fnd (nm : Nat → ByteArray) (n : Nat) : Dst nm n ↔ ∀ i, i < n → fnd nm (nm i) n = (i : Int) := by
  constructor
  · intro h i hi
    exact fnd_hit (fun j hj e => by have := h j i (by omega) hi e; omega) rfl hi
  · intro h i j hi hj e
    have h1 := h i hi
    have h2 := h j hj
    rw [e] at h1
    omega

theorem run_mk {P : Program} {t k e : TypeId} (ht : P.underlying t = some (.map k e)) (n : Nat) (w : World) : (Instr.makeMap t (some (.int .i64 (n : Int)))).run P w = .ok (.map (some w.heap.size)) (w.alloc (.map #[] 0)) := by
  simp [Instr.makeMap, go_sem, run_underlying ht]
theorem lawM : Keyed Try.prog 9 := string_keyed Try.underlying9
set_option maxRecDepth 100000 in
set_option maxHeartbeats 2000000 in
theorem places_calls (A : Option Addr) (n c : Nat) (fc : Nat → Nat → Dat) (w : World) (hq : n ≤ 1048576) (hr : RowsAt w A n 4 fc) (ht : tyChannelS (.sl n 4 fc)) :
    Calls Try.prog 95 #[.slice A n c] w fun e w' => e = .returned (.map (some w.heap.size)) ∧ w'.ownsMap Try.prog 9 (plainElem Try.prog 3) w.heap.size n (PL (fun i => dStr (fc i 0)) n) ∧ Below w.heap.size w w' := by
  have HR := Lib.hid hr
  have HT := Lib.hid ht
  clear hr ht
  have hmm := fun (m : Nat) (W : World) => run_mk (P := Try.prog) Try.underlying150 m W
  go_enter Try.func95, Try.ntmps95
  go_wp2
  go_loopw [11] (fun i wr => ∃ k : Nat, k ≤ n ∧ i = .int .i64 k ∧ Hid (wr.ownsMap Try.prog 9 (plainElem Try.prog 3) w.heap.size k (PL (fun i => dStr (fc i 0)) k)) ∧ Hid (Below w.heap.size w wr)) (fun i _ => n - (intOf i).toNat)
  case atStart => exact ⟨0, Nat.zero_le _, rfl, Lib.hid (World.ownsMap_made _ _ _ _), Lib.hid ((Below.refl _ _).alloc (Nat.le_refl _) _)⟩
  case round =>
    clear hmm
    obtain ⟨k, hk, rfl, HO, HB⟩ := hrel
    by_cases hlt : k < n
    · obtain ⟨b, o, rfl, hbl, ⟨s0, z0⟩, ⟨s1, z1⟩, ⟨s2, -⟩, ⟨s3, -⟩⟩ := viewChannelS (HR.out.below HB.out) HT.out k hlt
      have hli : (k : Int) < (n : Int) := by omega
      have hown := HO.out.alloc (.cells #[.string (dStr (fc k 0)), .string (dStr (fc k 1)), .int .i64 (dInt (fc k 2)), .int .i64 (dInt (fc k 3))] 98)
      have HB1 := Lib.hid (HB.out.alloc HB.out.size (.cells #[.string (dStr (fc k 0)), .string (dStr (fc k 1)), .int .i64 (dInt (fc k 2)), .int .i64 (dInt (fc k 3))] 98))
      have HP := Lib.hid (show PL (fun i => dStr (fc i 0)) (k + 1) = (PL (fun i => dStr (fc i 0)) k).put (.string (dStr (fc k 0)).data.toList) (.lit (.int .i64 (k : Int))) from rfl)
      have hkey : keyOf Try.prog 9 (.string (dStr (fc k 0))) = some (.string (dStr (fc k 0)).data.toList) := keyOf_string_mk Try.underlying9 z0
      clear HO HB
      generalize dStr (fc k 0) = x0 at *
      generalize dStr (fc k 1) = x1 at *
      generalize dInt (fc k 2) = x2 at *
      generalize dInt (fc k 3) = x3 at *
      go_wp2_with ((at_mapUpdate; refine wpList_mapUpdate_own _ rfl _ _ _ 150 rfl 9 3 lawM Try.underlying150 _ w.heap.size k _ rfl hown (by unfold maxLen; omega) _ _ _ rfl rfl hkey _ [] (plainElem_int Try.underlying3 (WalkArith.wf_i64 (by omega))) ?_))
      intro w1 hown1 hgrow1
      have R1 := Lib.hid (HP.out.symm ▸ hown1)
      have R2 := Lib.hid (HB1.out.grown hgrow1 HB1.out.size (fun j hj => by cases hj; exact Nat.le_refl _))
      clear hown1 hgrow1 hown s0 s1 s2 s3 hkey HP
      go_wp2
      go_roundw
      case rel => exact ⟨k + 1, by omega, by go_num, R1, R2⟩
      case measure => simp [intOf]; omega
    · obtain rfl : n = k := by omega
      go_wp2
      go_ret
      exact ⟨rfl, HO.out, HB.out⟩
end Go.Proofs.Ytnmlnlcbnjepkaa.fileI
