/-
  Proved: for every string, the call of the law on IsWord returns true and leaves its argument as it was.
  Conditions: none beyond the row's own.
-/
import Derived.Test.YtpkofhchijpbeaaPost
import Derived.WalkKit
import Derived.ProofKit
import Derived.OpenShut
import Derived.Laws.RangeAny
import Derived.Lib.Hide
namespace Go.Proofs.Ytpkofhchijpbeaa.fnExactIsWord
open Go.ChangeShapes Go.WideShapes Go.ChangeAt Go.RowKit
open Go.ChangeMaps (open_string shut_string)
set_option linter.unusedVariables false

theorem own : ownKnob Try.prog.godebug = none := by kernel_rfl

def smallAt (s : ByteArray) (i : Nat) : Prop := ∃ h : i < s.size, 97 ≤ (s[i]'h).toNat ∧ (s[i]'h).toNat ≤ 122
noncomputable def wordB (s : ByteArray) : Bool := @decide (1 ≤ s.size ∧ s.size ≤ 10 ∧ ∀ i, i < s.size → smallAt s i) (Classical.propDecidable _)

theorem wordB_true {s : ByteArray} (h1 : 1 ≤ s.size) (h2 : s.size ≤ 10) (h : ∀ i, i < s.size → smallAt s i) : wordB s = true := by
  unfold wordB; exact @decide_eq_true _ (Classical.propDecidable _) ⟨h1, h2, h⟩
theorem wordB_size {s : ByteArray} (h : ¬ (1 ≤ s.size ∧ s.size ≤ 10)) : wordB s = false := by
  unfold wordB; exact @decide_eq_false _ (Classical.propDecidable _) fun ⟨a, b, _⟩ => h ⟨a, b⟩
theorem wordB_at {s : ByteArray} (i : Nat) (hi : i < s.size) (h : ¬ smallAt s i) : wordB s = false := by
  unfold wordB; exact @decide_eq_false _ (Classical.propDecidable _) fun ⟨_, _, c⟩ => h (c i hi)

set_option maxHeartbeats 1000000 in
theorem spec_calls (s : ByteArray) (w : World) (hs : s.size ≤ maxLen) :
    Calls Try.prog 13 #[.string s] w fun e w' => e = .returned (.bool (wordB s)) ∧ w' = w := by
  unfold maxLen at hs
  go_enter Try.func13, Try.ntmps13
  go_wp2
  go_loop [3] (fun i => ∃ k : Nat, k ≤ s.size ∧ i = .int .i64 k ∧ Hid (∀ j, j < k → smallAt s j)) (fun i => s.size - (intOf i).toNat)
  case atStart => exact ⟨0, Nat.zero_le _, rfl, Lib.hid fun j hj => absurd hj (by omega)⟩
  case round =>
    obtain ⟨k, hk, rfl, hall⟩ := hrel
    by_cases hlt : k < s.size
    · by_cases hsm : 97 ≤ (s[k].toNat : Int) ∧ (s[k].toNat : Int) ≤ 122
      · obtain ⟨h1, h2⟩ := hsm
        have HS : Hid (∀ j, j < k + 1 → smallAt s j) := Lib.hid fun j hj => by
          rcases Nat.lt_or_ge j k with h | h
          · exact hall.out j h
          · obtain rfl : j = k := by omega
            exact ⟨hlt, by omega, by omega⟩
        clear hall
        go_wp2
        go_round
        case rel => exact ⟨k + 1, by omega, by go_num, HS⟩
        case measure => simp [intOf]; omega
      · have HF : Hid (wordB s = false) := Lib.hid (wordB_at k hlt fun ⟨_, a, b⟩ => hsm ⟨by omega, by omega⟩)
        clear hall
        by_cases h1 : 97 ≤ (s[k].toNat : Int)
        · have h2 : ¬ (s[k].toNat : Int) ≤ 122 := fun h => hsm ⟨h1, h⟩
          clear hsm
          go_wp2
          go_ret
          exact ⟨by rw [HF.out]; rfl, rfl⟩
        · clear hsm
          go_wp2
          go_ret
          exact ⟨by rw [HF.out]; rfl, rfl⟩
    · have hks : s.size ≤ k := by omega
      have HA : Hid (∀ j, j < s.size → smallAt s j) := Lib.hid fun j hj => hall.out j (by omega)
      clear hall
      by_cases h1 : 1 ≤ s.size
      · by_cases h2 : s.size ≤ 10
        · have HF : Hid (wordB s = true) := Lib.hid (wordB_true h1 h2 HA.out)
          clear HA
          have hd : decide ((s.size : Int) ≤ 10) = true := decide_eq_true (by omega)
          go_wp2
          go_ret
          exact ⟨by rw [HF.out]; rfl, rfl⟩
        · have HF : Hid (wordB s = false) := Lib.hid (wordB_size (by omega))
          clear HA
          have hd : decide ((s.size : Int) ≤ 10) = false := decide_eq_false (by omega)
          go_wp2
          go_ret
          exact ⟨by rw [HF.out]; rfl, rfl⟩
      · have HF : Hid (wordB s = false) := Lib.hid (wordB_size (by omega))
        clear HA
        go_wp2
        go_ret
        exact ⟨by rw [HF.out]; rfl, rfl⟩

theorem width_pos (s : ByteArray) (pos : Nat) (h : pos < s.size) : 1 ≤ (Utf8.decode s pos).2 := by
  by_cases ha : (s[pos]'h).toNat < 128
  · rw [decode_ascii s pos h ha]
    exact Nat.le_refl _
  · exact (decode_high s pos h (by omega)).2
/-- What is no small letter as a byte is none as a rune. -/
theorem rune_not (s : ByteArray) (pos : Nat) (h : pos < s.size) (hn : ¬ smallAt s pos) : ((Utf8.decode s pos).1 : Int) < 97 ∨ 122 < ((Utf8.decode s pos).1 : Int) := by
  by_cases ha : (s[pos]'h).toNat < 128
  · rw [decode_ascii s pos h ha]
    simp only
    rcases Nat.lt_or_ge (s[pos]'h).toNat 97 with h1 | h1
    · left; omega
    · right
      have : ¬ (s[pos]'h).toNat ≤ 122 := fun h2 => hn ⟨h, h1, h2⟩
      omega
  · right
    have := (decode_high s pos h (by omega)).1
    omega

set_option maxHeartbeats 1000000 in
set_option maxRecDepth 100000 in
theorem impl_calls (s : ByteArray) (w : World) (hs : s.size ≤ maxLen) :
    Calls Try.prog 14 #[.string s] w fun e w' => e = .returned (.bool (wordB s)) ∧ Below w.heap.size w w' := by
  unfold maxLen at hs
  by_cases h1 : 1 ≤ s.size
  · by_cases h2 : s.size ≤ 10
    · go_enter Try.func14, Try.ntmps14
      go_wp2
      go_loopw [4] (fun _ w' => ∃ pos : Nat, w' = w.iter s pos ∧ pos ≤ s.size ∧ Hid (∀ j, j < pos → smallAt s j)) (fun _ w' => s.size - w'.iterPos w.heap.size)
      case atStart => exact ⟨0, rfl, Nat.zero_le _, Lib.hid fun j hj => absurd hj (by omega)⟩
      case round =>
        obtain ⟨pos, rfl, hk, hall⟩ := hrel
        by_cases hp : pos < s.size
        · by_cases hsm : smallAt s pos
          · have HS : Hid (∀ j, j < pos + 1 → smallAt s j) := Lib.hid fun j hj => by
              rcases Nat.lt_or_ge j pos with h | h
              · exact hall.out j h
              · obtain rfl : j = pos := by omega
                exact hsm
            clear hall
            obtain ⟨_, a, b⟩ := hsm
            have a' : (97 : Int) ≤ (s[pos].toNat : Int) := by omega
            have b' : (s[pos].toNat : Int) ≤ 122 := by omega
            have hnx := fun ty => run_next_ascii (P := Try.prog) w s pos ty hp (by omega)
            go_wp2
            go_roundw
            case rel => exact ⟨pos + 1, rfl, by omega, HS⟩
            case measure => simp; omega
          · have HF : Hid (wordB s = false) := Lib.hid (wordB_at pos hp hsm)
            have hr := rune_not s pos hp hsm
            clear hall hsm
            have hnx := fun ty => run_next_any (P := Try.prog) w s pos ty hp
            generalize ((Utf8.decode s pos).1 : Int) = r at hr hnx
            rcases hr with hr | hr
            · go_wp2
              go_ret
              exact ⟨by rw [HF.out]; rfl, (Below.refl _ _).alloc (Nat.le_refl _) _⟩
            · have hr' : 97 ≤ r := by omega
              have hd : decide (r ≤ 122) = false := decide_eq_false (by omega)
              go_wp2
              go_ret
              exact ⟨by rw [HF.out]; rfl, (Below.refl _ _).alloc (Nat.le_refl _) _⟩
        · have HF : Hid (wordB s = true) := Lib.hid (wordB_true h1 h2 fun j hj => hall.out j (by omega))
          clear hall
          have hnx := fun ty => run_next_end (P := Try.prog) w s pos ty hp
          go_wp2
          go_ret
          exact ⟨by rw [HF.out]; rfl, (Below.refl _ _).alloc (Nat.le_refl _) _⟩
    · have HF : Hid (wordB s = false) := Lib.hid (wordB_size (by omega))
      go_enter Try.func14, Try.ntmps14
      go_wp2
      go_ret
      exact ⟨by rw [HF.out]; rfl, Below.refl _ _⟩
  · have HF : Hid (wordB s = false) := Lib.hid (wordB_size (by omega))
    go_enter Try.func14, Try.ntmps14
    go_wp2
    go_ret
    exact ⟨by rw [HF.out]; rfl, Below.refl _ _⟩

theorem walk (s : ByteArray) (w : World) (hs : s.size ≤ maxLen) :
    Calls Try.prog 5 #[.string s] w fun e w' => e = .returned (.bool true) ∧ Below w.heap.size w w' := by
  have hs' := hs
  unfold maxLen at hs'
  by_cases hb : (1048576 : Int) < s.size
  · go_enter Try.func5, Try.ntmps5
    go_wp2
    go_ret
    exact ⟨rfl, Below.refl _ _⟩
  · go_enter Try.func5, Try.ntmps5
    go_wp2_with fail
    refine (spec_calls s _ hs).mono ?_
    rintro e w1 ⟨rfl, rfl⟩
    go_wp2_with fail
    refine (impl_calls s _ hs).mono ?_
    rintro e w1 ⟨rfl, hg⟩
    cases hw : wordB s
    all_goals
      go_wp2
      go_ret
      exact ⟨rfl, hg⟩

theorem reads : ∀ t ∈ Try.f5.params.toList, Try.prog.readableRec t = true ∧ t < Try.prog.types.size := by
  rw [Try.params5]
  intro t ht
  obtain rfl : t = 9 := by simpa using ht
  exact ⟨by kernel_rfl, of_decide_eq_true (by kernel_rfl)⟩

theorem contract (H : Type) (enc : TypeId × Value → H) (W : World) (base : Nat) (args : Array Value) (ds gs : List (DataW H)) (before : List MemPlace)
    (hval : ∀ (j : Nat) t v, Try.f5.params[j]? = some t → args[j]? = some v → Value.okWide Try.prog W .any base t v)
    (hW : DataW.Whole enc Try.prog Try.f5.params.toList Rows.fnExactIsWordSpec.vars false W args.toList ds gs before) :
    Calls Try.prog 5 args W fun e W' => ∃ v, e = .returned v ∧ Rows.fnExactIsWordSpec.post enc Try.prog Try.f5 false true false false W args v W' := by
  have hW' := hW
  obtain ⟨p, q, hA0, hV, rfl, hfz, hnd⟩ := hW
  have hA : DataW.TrodAll enc Try.prog W 0 (fun _ => true) true Try.f5.params.toList args.toList ds p := hA0
  rw [Try.params5] at hA hval
  obtain ⟨v0, vs0, d0, ds0, p0, q0, hargs, rfl, rfl, h0, r0⟩ := trodAll_cons hA
  obtain ⟨rfl, rfl, rfl⟩ := trodAll_nil r0
  obtain rfl : args = #[v0] := by cases args; simp_all
  obtain ⟨rfl, rfl⟩ := trodVars_none hV
  obtain ⟨s, rfl, rfl, rfl, hs⟩ := open_string Try.underlying9 (hval 0 9 v0 rfl rfl) h0
  clear hA0
  refine (walk s W hs).mono fun e W' ⟨he, hg⟩ => ?_
  subst he
  exact ⟨_, rfl, law_post (by kernel_rfl) reads (by kernel_rfl) Try.underlying4 rfl hW' rfl rfl rfl hg⟩

set_option maxRecDepth 100000 in
theorem lifted (os : Os) (started : os.Started) (H : Type) (enc : TypeId × Value → H) :
    ReturnsInHanded {} Try.checked os 5 .any (Rows.fnExactIsWordSpec.pre6 enc Try.prog Try.f5 Rows.fnExactIsWordRow.domain false) (Rows.fnExactIsWordSpec.post enc Try.prog Try.f5 false true false false) := by
  refine returnsInHanded_of_change (C := Try.checked) own started (by kernel_rfl) Try.func5
    (ChangeSpec.witness6 (enc := enc) (C := Try.checked) false ⟨#[], #[.string ⟨#[]⟩], []⟩ 8 (by kernel_rfl) (by kernel_rfl) (by kernel_rfl) (by kernel_rfl)) ?_
  intro W base args ds gs before hval hW _ _
  exact contract H enc W base args ds gs before hval hW

theorem holds : Rows.FnExactIsWordSaid :=
  OpenClaim.holds_of_wide 5 Try.f5 rfl rfl rfl rfl rfl rfl rfl ⟨rfl, rfl, rfl, rfl, rfl⟩ rfl rfl rfl rfl rfl (by kernel_rfl) Try.func5 (by kernel_rfl)
    (of_decide_eq_true (by kernel_rfl)) (by unfold Func.isWrapper; first | (rw [if_pos (by decide +kernel)]; kernel_rfl) | (rw [if_neg (by decide +kernel)]; exact ⟨rfl, rfl⟩))
    (fun os started H enc _ => lifted os started H enc)
end Go.Proofs.Ytpkofhchijpbeaa.fnExactIsWord
