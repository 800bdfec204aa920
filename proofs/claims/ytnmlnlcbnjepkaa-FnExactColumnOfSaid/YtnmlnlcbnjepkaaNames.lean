/-
  Proved: what the two functions that ask whether a text is a name return (contracts of callees of the exact laws).
  Conditions: none.
-/
import Derived.Test.YtnmlnlcbnjepkaaCore
import Derived.WalkKit
import Derived.ProofKit
import Derived.OpenShut
import Derived.Laws.RangeAny
import Derived.Lib.Hide
namespace Go.Proofs.Ytnmlnlcbnjepkaa.names
open Go.ChangeShapes Go.WideShapes Go.ChangeAt Go.RowKit
set_option linter.unusedVariables false
set_option linter.unusedSimpArgs false
def smallAt (s : ByteArray) (i : Nat) : Prop := ∃ h : i < s.size, 97 ≤ (s[i]'h).toNat ∧ (s[i]'h).toNat ≤ 122
theorem width_pos (s : ByteArray) (pos : Nat) (h : pos < s.size) : 1 ≤ (Utf8.decode s pos).2 := by
  by_cases ha : (s[pos]'h).toNat < 128
  · rw [decode_ascii s pos h ha]
    exact Nat.le_refl _
  · exact (decode_high s pos h (by omega)).2
/-- What is no small letter as a byte is none as a rune. -/
theorem rune_not (s : ByteArray) (pos : Nat) (h : pos < s.size) (hn : ¬ smallAt s pos) : ((Utf8.decode s pos).1 : Int) < 97 ∨ 122 < ((Utf8.decode s pos).1 : Int) := by
  by_cases ha : (s[pos]'h).toNat < 128
  · rw [decode_ascii s pos h ha]
    simp only
    rcases Nat.lt_or_ge (s[pos]'h).toNat 97 with h1 | h1
    · left; omega
    · right
      have : ¬ (s[pos]'h).toNat ≤ 122 := fun h2 => hn ⟨h, h1, h2⟩
      omega
  · right
    have := (decode_high s pos h (by omega)).1
    omega

def okAt (s : ByteArray) (i : Nat) : Prop := ∃ h : i < s.size, (97 ≤ (s[i]'h).toNat ∧ (s[i]'h).toNat ≤ 122) ∨ (48 ≤ (s[i]'h).toNat ∧ (s[i]'h).toNat ≤ 57) ∨ (s[i]'h).toNat = 45
noncomputable def nameB (s : ByteArray) : Bool := @decide (1 ≤ s.size ∧ s.size ≤ 12 ∧ smallAt s 0 ∧ ∀ i, i < s.size → okAt s i) (Classical.propDecidable _)

theorem nameB_true {s : ByteArray} (h1 : 1 ≤ s.size) (h2 : s.size ≤ 12) (h0 : smallAt s 0) (h : ∀ i, i < s.size → okAt s i) : nameB s = true := by
  unfold nameB; exact @decide_eq_true _ (Classical.propDecidable _) ⟨h1, h2, h0, h⟩
theorem nameB_size {s : ByteArray} (h : ¬ (1 ≤ s.size ∧ s.size ≤ 12)) : nameB s = false := by
  unfold nameB; exact @decide_eq_false _ (Classical.propDecidable _) fun ⟨a, b, _⟩ => h ⟨a, b⟩
theorem nameB_first {s : ByteArray} (h : ¬ smallAt s 0) : nameB s = false := by
  unfold nameB; exact @decide_eq_false _ (Classical.propDecidable _) fun ⟨_, _, c, _⟩ => h c
theorem nameB_at {s : ByteArray} (i : Nat) (hi : i < s.size) (h : ¬ okAt s i) : nameB s = false := by
  unfold nameB; exact @decide_eq_false _ (Classical.propDecidable _) fun ⟨_, _, _, c⟩ => h (c i hi)

theorem rune_bad (s : ByteArray) (pos : Nat) (h : pos < s.size) (hn : ¬ okAt s pos) :
    (((Utf8.decode s pos).1 : Int) < 97 ∨ 122 < ((Utf8.decode s pos).1 : Int)) ∧ (((Utf8.decode s pos).1 : Int) < 48 ∨ 57 < ((Utf8.decode s pos).1 : Int)) ∧ ((Utf8.decode s pos).1 : Int) ≠ 45 := by
  by_cases ha : (s[pos]'h).toNat < 128
  · rw [decode_ascii s pos h ha]
    simp only
    have h1 : ¬ (97 ≤ (s[pos]'h).toNat ∧ (s[pos]'h).toNat ≤ 122) := fun x => hn ⟨h, .inl x⟩
    have h2 : ¬ (48 ≤ (s[pos]'h).toNat ∧ (s[pos]'h).toNat ≤ 57) := fun x => hn ⟨h, .inr (.inl x)⟩
    have h3 : ¬ (s[pos]'h).toNat = 45 := fun x => hn ⟨h, .inr (.inr x)⟩
    omega
  · have := (decode_high s pos h (by omega)).1
    omega

theorem full {s : ByteArray} (h : 1 ≤ s.size) : s.toList.isEmpty = false ∧ ¬ s.toList = [] := by
  have hl : s.toList.length = s.size := by rw [ByteArray.toList_eq]; simp
  cases e : s.toList with
  | nil => rw [e] at hl; simp at hl; omega
  | cons a l => simp
theorem void {s : ByteArray} (h : ¬ 1 ≤ s.size) : s.toList.isEmpty = true ∧ s.toList = [] := by
  have hl : s.toList.length = s.size := by rw [ByteArray.toList_eq]; simp
  cases e : s.toList with
  | nil => simp
  | cons a l => rw [e] at hl; simp at hl; omega

/-- What the next round of the loop over bytes knows. -/
theorem more {s : ByteArray} {k : Nat} (hall : ∀ j, j < k → okAt s j) (h : okAt s k) : ∀ j, j < k + 1 → okAt s j := by
  intro j hj
  rcases Nat.lt_or_ge j k with h' | h'
  · exact hall j h'
  · obtain rfl : j = k := by omega
    exact h

set_option maxHeartbeats 1000000 in
theorem isName_sl (s : ByteArray) (w : World) (hs : s.size ≤ maxLen) (h1 : 1 ≤ s.size) (h2 : s.size ≤ 12) (h0 : smallAt s 0) :
    Calls Try.prog 65 #[.string s] w fun e w' => e = .returned (.bool (nameB s)) ∧ w' = w := by
  unfold maxLen at hs
  have H0 := Lib.hid h0
  obtain ⟨hp, a, b⟩ := h0
  have a' : (97 : Int) ≤ (s[0].toNat : Int) := by omega
  have b' : (s[0].toNat : Int) ≤ 122 := by omega
  have hb : decide ((s[0].toNat : Int) ≤ 122) = true := decide_eq_true b'
  clear a b
  obtain ⟨he, hne⟩ := full h1
  go_enter Try.func65, Try.ntmps65
  go_wp2
  go_loop [3] (fun i => ∃ k : Nat, k ≤ s.size ∧ i = .int .i64 k ∧ Hid (∀ j, j < k → okAt s j)) (fun i => s.size - (intOf i).toNat)
  case atStart => exact ⟨0, Nat.zero_le _, rfl, Lib.hid fun j hj => absurd hj (by omega)⟩
  case round =>
    obtain ⟨k, hk, rfl, hall⟩ := hrel
    clear a' b' hb he hne
    by_cases hlt : k < s.size
    · by_cases hok : okAt s k
      · have HS : Hid (∀ j, j < k + 1 → okAt s j) := Lib.hid (more hall.out hok)
        clear hall
        obtain ⟨_, hc⟩ := hok
        rcases hc with ⟨x, y⟩ | ⟨x, y⟩ | x
        · have x1 : (97 : Int) ≤ (s[k].toNat : Int) := by omega
          have y1 : (s[k].toNat : Int) ≤ 122 := by omega
          have y2 : decide ((s[k].toNat : Int) ≤ 122) = true := decide_eq_true y1
          clear x y
          go_wp2
          go_round
          case rel => exact ⟨k + 1, by omega, by go_num, HS⟩
          case measure => simp [intOf]; omega
        · have x1 : (48 : Int) ≤ (s[k].toNat : Int) := by omega
          have y1 : (s[k].toNat : Int) ≤ 57 := by omega
          have y2 : decide ((s[k].toNat : Int) ≤ 57) = true := decide_eq_true y1
          clear x y
          go_wp2
          go_round
          case rel => exact ⟨k + 1, by omega, by go_num, HS⟩
          case measure => simp [intOf]; omega
        · have x1 : (s[k].toNat : Int) ≤ 45 := by omega
          have y1 : (45 : Int) ≤ (s[k].toNat : Int) := by omega
          have y2 : ((s[k].toNat : Int) != 45) = false := by simp; omega
          clear x
          go_wp2
          go_round
          case rel => exact ⟨k + 1, by omega, by go_num, HS⟩
          case measure => simp [intOf]; omega
      · have HF : Hid (nameB s = false) := Lib.hid (nameB_at k hlt hok)
        have g1 : (s[k].toNat : Int) < 97 ∨ 122 < (s[k].toNat : Int) := by
          have : ¬ (97 ≤ s[k].toNat ∧ s[k].toNat ≤ 122) := fun x => hok ⟨hlt, .inl x⟩
          omega
        have g2 : (s[k].toNat : Int) < 48 ∨ 57 < (s[k].toNat : Int) := by
          have : ¬ (48 ≤ s[k].toNat ∧ s[k].toNat ≤ 57) := fun x => hok ⟨hlt, .inr (.inl x)⟩
          omega
        have g3 : ((s[k].toNat : Int) != 45) = true := by
          have : ¬ s[k].toNat = 45 := fun x => hok ⟨hlt, .inr (.inr x)⟩
          simp; omega
        clear hall hok
        rcases g1 with g1 | g1
        · rcases g2 with g2 | g2
          · go_wp2
            go_ret
            exact ⟨by rw [HF.out]; rfl, rfl⟩
          · have d2 : decide ((s[k].toNat : Int) ≤ 57) = false := decide_eq_false (by omega)
            go_wp2
            go_ret
            exact ⟨by rw [HF.out]; rfl, rfl⟩
        · have d1 : decide ((s[k].toNat : Int) ≤ 122) = false := decide_eq_false (by omega)
          have d2 : decide ((s[k].toNat : Int) ≤ 57) = false := decide_eq_false (by omega)
          clear g2
          go_wp2
          go_ret
          exact ⟨by rw [HF.out]; rfl, rfl⟩
    · have HF : Hid (nameB s = true) := Lib.hid (nameB_true h1 h2 H0.out fun j hj => hall.out j (by omega))
      clear hall H0
      go_wp2
      go_ret
      exact ⟨by rw [HF.out]; rfl, rfl⟩

set_option maxHeartbeats 1000000 in
theorem isName_spec (s : ByteArray) (w : World) (hs : s.size ≤ maxLen) :
    Calls Try.prog 65 #[.string s] w fun e w' => e = .returned (.bool (nameB s)) ∧ w' = w := by
  by_cases h1 : 1 ≤ s.size
  · by_cases h2 : s.size ≤ 12
    · by_cases h0 : smallAt s 0
      · exact isName_sl s w hs h1 h2 h0
      · have HF : Hid (nameB s = false) := Lib.hid (nameB_first h0)
        have hp : 0 < s.size := h1
        have g : (s[0].toNat : Int) < 97 ∨ 122 < (s[0].toNat : Int) := by
          have : ¬ (97 ≤ s[0].toNat ∧ s[0].toNat ≤ 122) := fun x => h0 ⟨hp, x⟩
          omega
        clear h0
        unfold maxLen at hs
        obtain ⟨he, hne⟩ := full h1
        rcases g with g | g
        · go_enter Try.func65, Try.ntmps65
          go_wp2
          go_ret
          exact ⟨by rw [HF.out]; rfl, rfl⟩
        · have d1 : decide ((s[0].toNat : Int) ≤ 122) = false := decide_eq_false (by omega)
          go_enter Try.func65, Try.ntmps65
          go_wp2
          go_ret
          exact ⟨by rw [HF.out]; rfl, rfl⟩
    · have HF : Hid (nameB s = false) := Lib.hid (nameB_size (by omega))
      unfold maxLen at hs
      obtain ⟨he, hne⟩ := full h1
      go_enter Try.func65, Try.ntmps65
      go_wp2
      go_ret
      exact ⟨by rw [HF.out]; rfl, rfl⟩
  · have HF : Hid (nameB s = false) := Lib.hid (nameB_size (by omega))
    unfold maxLen at hs
    obtain ⟨he, hne⟩ := void h1
    go_enter Try.func65, Try.ntmps65
    go_wp2
    go_ret
    exact ⟨by rw [HF.out]; rfl, rfl⟩

set_option maxHeartbeats 1000000 in
set_option maxRecDepth 100000 in
theorem isName_il (s : ByteArray) (w : World) (hs : s.size ≤ maxLen) (h1 : 1 ≤ s.size) (h2 : s.size ≤ 12) :
    Calls Try.prog 69 #[.string s] w fun e w' => e = .returned (.bool (nameB s)) ∧ Below w.heap.size w w' := by
  unfold maxLen at hs
  go_enter Try.func69, Try.ntmps69
  go_wp2
  go_loopw [3, 4] (fun _ _ w' => ∃ pos : Nat, w' = w.iter s pos ∧ pos ≤ s.size ∧ Hid (∀ j, j < pos → okAt s j) ∧ Hid (0 < pos → smallAt s 0)) (fun _ _ w' => s.size - w'.iterPos w.heap.size)
  case atStart => exact ⟨0, rfl, Nat.zero_le _, Lib.hid fun j hj => absurd hj (by omega), Lib.hid fun h => absurd h (by omega)⟩
  case round =>
    obtain ⟨pos, rfl, hk, hall, hfst⟩ := hrel
    by_cases hp : pos < s.size
    · by_cases hok : okAt s pos
      · have HS : Hid (∀ j, j < pos + 1 → okAt s j) := Lib.hid (more hall.out hok)
        clear hall
        by_cases hsm : smallAt s pos
        · have HT : Hid (0 < pos + 1 → smallAt s 0) := Lib.hid fun _ => by
            rcases Nat.eq_zero_or_pos pos with h | h
            · rw [← h]; exact hsm
            · exact hfst.out h
          clear hfst hok
          obtain ⟨_, a, b⟩ := hsm
          have a' : (97 : Int) ≤ (s[pos].toNat : Int) := by omega
          have b' : (s[pos].toNat : Int) ≤ 122 := by omega
          have hd : decide ((s[pos].toNat : Int) ≤ 122) = true := decide_eq_true b'
          have hnx := fun ty => run_next_ascii (P := Try.prog) w s pos ty hp (by omega)
          clear a b
          go_wp2
          go_roundw
          case rel => exact ⟨pos + 1, rfl, by omega, HS, HT⟩
          case measure => simp; omega
        · by_cases hz : pos = 0
          · have HF : Hid (nameB s = false) := Lib.hid (nameB_first (by rw [← hz]; exact hsm))
            have hr := rune_not s pos hp hsm
            have e0 : ((pos : Int) == 0) = true := by simp; omega
            clear hz hsm hok HS hfst
            have hnx := fun ty => run_next_any (P := Try.prog) w s pos ty hp
            generalize ((Utf8.decode s pos).1 : Int) = r at hr hnx
            rcases hr with hr | hr
            · go_wp2
              go_ret
              exact ⟨by rw [HF.out]; rfl, (Below.refl _ _).alloc (Nat.le_refl _) _⟩
            · have hr' : 97 ≤ r := by omega
              have hd : decide (r ≤ 122) = false := decide_eq_false (by omega)
              go_wp2
              go_ret
              exact ⟨by rw [HF.out]; rfl, (Below.refl _ _).alloc (Nat.le_refl _) _⟩
          · have HT : Hid (0 < pos + 1 → smallAt s 0) := Lib.hid fun _ => hfst.out (by omega)
            have e0 : ((pos : Int) == 0) = false := by simp; omega
            clear hfst hz
            have hc : (48 ≤ (s[pos]'hp).toNat ∧ (s[pos]'hp).toNat ≤ 57) ∨ (s[pos]'hp).toNat = 45 := by
              obtain ⟨_, x | x | x⟩ := hok
              · exact absurd ⟨hp, x⟩ hsm
              · exact .inl x
              · exact .inr x
            clear hok hsm
            rcases hc with ⟨a, b⟩ | a
            · have a' : (48 : Int) ≤ (s[pos].toNat : Int) := by omega
              have b' : (s[pos].toNat : Int) ≤ 57 := by omega
              have hd : decide ((s[pos].toNat : Int) ≤ 57) = true := decide_eq_true b'
              have hnx := fun ty => run_next_ascii (P := Try.prog) w s pos ty hp (by omega)
              clear a b
              go_wp2
              go_roundw
              case rel => exact ⟨pos + 1, rfl, by omega, HS, HT⟩
              case measure => simp; omega
            · have a' : (s[pos].toNat : Int) ≤ 45 := by omega
              have b' : ((s[pos].toNat : Int) != 45) = false := by simp; omega
              have hnx := fun ty => run_next_ascii (P := Try.prog) w s pos ty hp (by omega)
              clear a
              go_wp2
              go_roundw
              case rel => exact ⟨pos + 1, rfl, by omega, HS, HT⟩
              case measure => simp; omega
      · have HF : Hid (nameB s = false) := Lib.hid (nameB_at pos hp hok)
        obtain ⟨g1, g2, g3⟩ := rune_bad s pos hp hok
        clear hall hok hfst
        have hnx := fun ty => run_next_any (P := Try.prog) w s pos ty hp
        generalize ((Utf8.decode s pos).1 : Int) = r at g1 g2 g3 hnx
        have e3 : (r != 45) = true := by simp; omega
        have E : ((pos : Int) == 0) = true ∨ ((pos : Int) == 0) = false := by cases ((pos : Int) == 0) <;> simp
        clear g3
        rcases E with E | E
        all_goals
          rcases g1 with g1 | g1
          · rcases g2 with g2 | g2
            · go_wp2
              go_ret
              exact ⟨by rw [HF.out]; rfl, (Below.refl _ _).alloc (Nat.le_refl _) _⟩
            · have d2 : decide (r ≤ 57) = false := decide_eq_false (by omega)
              go_wp2
              go_ret
              exact ⟨by rw [HF.out]; rfl, (Below.refl _ _).alloc (Nat.le_refl _) _⟩
          · have d1 : decide (r ≤ 122) = false := decide_eq_false (by omega)
            have d2 : decide (r ≤ 57) = false := decide_eq_false (by omega)
            clear g2
            go_wp2
            go_ret
            exact ⟨by rw [HF.out]; rfl, (Below.refl _ _).alloc (Nat.le_refl _) _⟩
    · have HF : Hid (nameB s = true) := Lib.hid (nameB_true h1 h2 (hfst.out (by omega)) fun j hj => hall.out j (by omega))
      clear hall hfst
      have hnx := fun ty => run_next_end (P := Try.prog) w s pos ty hp
      go_wp2
      go_ret
      exact ⟨by rw [HF.out]; rfl, (Below.refl _ _).alloc (Nat.le_refl _) _⟩

set_option maxHeartbeats 1000000 in
theorem isName_impl (s : ByteArray) (w : World) (hs : s.size ≤ maxLen) :
    Calls Try.prog 69 #[.string s] w fun e w' => e = .returned (.bool (nameB s)) ∧ Below w.heap.size w w' := by
  by_cases h1 : 1 ≤ s.size
  · by_cases h2 : s.size ≤ 12
    · exact isName_il s w hs h1 h2
    · have HF : Hid (nameB s = false) := Lib.hid (nameB_size (by omega))
      unfold maxLen at hs
      go_enter Try.func69, Try.ntmps69
      go_wp2
      go_ret
      exact ⟨by rw [HF.out]; rfl, Below.refl _ _⟩
  · have HF : Hid (nameB s = false) := Lib.hid (nameB_size (by omega))
    unfold maxLen at hs
    go_enter Try.func69, Try.ntmps69
    go_wp2
    go_ret
    exact ⟨by rw [HF.out]; rfl, Below.refl _ _⟩

end Go.Proofs.Ytnmlnlcbnjepkaa.names
