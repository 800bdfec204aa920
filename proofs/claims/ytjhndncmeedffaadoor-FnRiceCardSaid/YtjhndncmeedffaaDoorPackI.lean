/-
  Proved: the program's test of bits, and both functions that pack bits (contracts).
  Conditions: none.
-/
import Derived.Test.YtjhndncmeedffaaDoorPack
import Derived.Test.YtjhndncmeedffaaDoorShelf
namespace Go.Proofs.YtjhndncmeedffaaDoor.pack
open Go.ChangeShapes Go.WideShapes Go.ChangeAt Go.RowKit Go.Joins
open Go.Proofs.YtjhndncmeedffaaDoor.core Go.Proofs.YtjhndncmeedffaaDoor.rows Go.Proofs.YtjhndncmeedffaaDoor.bits
set_option linter.unusedVariables false
set_option linter.unusedSimpArgs false

theorem drop_all {l cs : List UInt8} (h : ∀ b ∈ l, cs.contains b = true) : l.dropWhile (cs.contains ·) = [] := by
  induction l with
  | nil => rfl
  | cons a l ih => rw [List.dropWhile_cons, if_pos (h a (by simp))]; exact ih fun b hb => h b (by simp [hb])
theorem drop_some {l cs : List UInt8} (h : l.dropWhile (cs.contains ·) = []) : ∀ b ∈ l, cs.contains b = true := by
  induction l with
  | nil => intro b hb; simp at hb
  | cons a l ih =>
    rw [List.dropWhile_cons] at h
    split at h
    · rename_i ha
      intro b hb
      rcases List.mem_cons.1 hb with rfl | hb
      · exact ha
      · exact ih h b hb
    · simp at h
theorem trim_all {l cs : List UInt8} (h : ∀ b ∈ l, cs.contains b = true) : Lib.trimS l cs = [] := by
  unfold Lib.trimS Lib.trimLeftS
  refine drop_all fun b hb => h b ?_
  unfold Lib.trimRightS at hb
  rw [List.mem_reverse] at hb
  exact List.mem_reverse.1 ((List.dropWhile_sublist _).subset hb)
theorem trim_some {l cs : List UInt8} (h : Lib.trimS l cs = []) : ∀ b ∈ l, cs.contains b = true := by
  unfold Lib.trimS Lib.trimLeftS at h
  have h1 := drop_some h
  unfold Lib.trimRightS at h1
  have h2 : l.reverse.dropWhile (cs.contains ·) = [] := by
    cases hd : l.reverse.dropWhile (cs.contains ·) with
    | nil => rfl
    | cons a t =>
      exfalso
      have hf : cs.contains a = false := by
        have := List.head_dropWhile_not (cs.contains ·) (l := l.reverse) (by rw [hd]; simp)
        simp only [hd, List.head_cons] at this
        exact this
      have ht := h1 a (by rw [hd]; simp)
      rw [hf] at ht
      cases ht
  intro b hb
  exact drop_some h2 b (List.mem_reverse.2 hb)
theorem cut_bit (b : UInt8) : ([48, 49] : List UInt8).contains b = true ↔ isBit b := by
  unfold isBit
  simp only [List.contains_cons, List.contains_nil, Bool.or_false, Bool.or_eq_true, beq_iff_eq]
  constructor
  · rintro (rfl | rfl)
    · exact .inl rfl
    · exact .inr rfl
  · rintro (h | h)
    · exact .inl (UInt8.toNat_inj.1 h)
    · exact .inr (UInt8.toNat_inj.1 h)
theorem all_bits (s : ByteArray) : AllBits s s.size ↔ Lib.trimS s.data.toList [48, 49] = [] := by
  constructor
  · intro h
    refine trim_all fun b hb => ?_
    obtain ⟨i, hi, rfl⟩ := List.mem_iff_getElem.1 hb
    rw [cut_bit]
    have := h i (by rw [← len_eq]; exact hi)
    rw [List.getElem?_eq_getElem hi, Option.getD_some] at this
    exact this
  · intro h i hi
    rw [← len_eq] at hi
    rw [List.getElem?_eq_getElem hi, Option.getD_some, ← cut_bit]
    exact trim_some h _ (List.getElem_mem hi)
theorem full {t : ByteArray} (h : t.data.toList ≠ []) : t.toList.isEmpty = false ∧ ¬ t.toList = [] := by
  rw [ByteArray.toList_eq]
  cases e : t.data.toList with
  | nil => exact absurd e h
  | cons a l => simp
theorem trim_calls (s : ByteArray) (hs : s.size ≤ 1048576) (w : World) :
    Calls Tryd.prog 36 #[.string s, .string ⟨#[48, 49]⟩] w fun e w' => e = .returned (.string ⟨(Lib.trimS s.data.toList [48, 49]).toArray⟩) ∧ Below w.heap.size w w' :=
  Tryd.strings_Trim_set s ⟨#[48, 49]⟩ w (by omega) (by decide) (ascii_of_all (l := [48, 49]) (by decide))
set_option maxRecDepth 100000 in
set_option maxHeartbeats 2000000 in
theorem okI_calls (s : ByteArray) (hs : s.size ≤ 1048576) (w : World) (r : Bool) (hr : r = true ↔ s.size ≤ 100000 ∧ AllBits s s.size) :
    Calls Tryd.prog 21 #[.string s] w fun e w' => e = .returned (.bool r) ∧ Below w.heap.size w w' := by
  by_cases h1 : s.size ≤ 100000
  · have d1 : decide ((s.size : Int) ≤ 100000) = true := decide_eq_true (by omega)
    have HC := Lib.hid (trim_calls s hs w)
    by_cases h2 : AllBits s s.size
    · have hrt : r = true := hr.2 ⟨h1, h2⟩
      subst hrt
      rw [(all_bits s).1 h2] at HC
      clear hr h2 h1
      go_enter Tryd.func21, Tryd.ntmps21
      go_wp2_with fail
      with_reducible refine HC.out.mono ?_
      rintro e w1 ⟨rfl, hb⟩
      have HB := Lib.hid hb
      clear hb HC
      go_wp2
      go_ret
      exact ⟨by simp, HB.out⟩
    · have hrf : r = false := by
        cases hh : r
        · rfl
        · exact absurd (hr.1 hh).2 h2
      subst hrf
      have hne : (⟨(Lib.trimS s.data.toList [48, 49]).toArray⟩ : ByteArray).data.toList ≠ [] := by
        simpa using fun h => h2 ((all_bits s).2 h)
      generalize (⟨(Lib.trimS s.data.toList [48, 49]).toArray⟩ : ByteArray) = t at *
      obtain ⟨t1, t2⟩ := full hne
      clear hr h2 h1 hne
      go_enter Tryd.func21, Tryd.ntmps21
      go_wp2_with fail
      with_reducible refine HC.out.mono ?_
      rintro e w1 ⟨rfl, hb⟩
      have HB := Lib.hid hb
      clear hb HC
      go_wp2
      go_ret
      exact ⟨by simp [t1, t2], HB.out⟩
  · have hrf : r = false := by
      cases hh : r
      · rfl
      · exact absurd (hr.1 hh).1 h1
    subst hrf
    have d1 : decide ((s.size : Int) ≤ 100000) = false := decide_eq_false (by omega)
    clear hr h1
    go_enter Tryd.func21, Tryd.ntmps21
    go_wp2
    go_ret
    exact ⟨by simp, Below.refl _ _⟩

set_option maxRecDepth 100000 in
set_option maxHeartbeats 1000000 in
theorem spec_yes (s : ByteArray) (hs : s.size ≤ 1048576) (h : s.size ≤ 100000 ∧ AllBits s s.size) (w : World) :
    Calls Tryd.prog 7 #[.string s] w fun e w' => e = .returned (.tuple #[.string ⟨(packL s.data.toList).toArray⟩, .int .i64 0]) ∧ Below w.heap.size w w' := by
  have H1 := Lib.hid (okS_calls s hs w true (by simp [h]))
  have H2 := Lib.hid (packS_calls s h.1 w)
  clear h
  go_enter Tryd.func7, Tryd.ntmps7
  go_wp2_with fail
  with_reducible refine H1.out.mono ?_
  rintro e w1 ⟨rfl, rfl⟩
  go_wp2_with fail
  with_reducible refine H2.out.mono ?_
  rintro e w1 ⟨rfl, hb⟩
  have HB := Lib.hid hb
  clear hb
  go_wp2
  go_ret2
  exact ⟨rfl, HB.out⟩
set_option maxRecDepth 100000 in
set_option maxHeartbeats 1000000 in
theorem spec_no (s : ByteArray) (hs : s.size ≤ 1048576) (h : ¬ (s.size ≤ 100000 ∧ AllBits s s.size)) (w : World) :
    Calls Tryd.prog 7 #[.string s] w fun e w' => e = .returned (.tuple #[.string ⟨#[]⟩, .int .i64 7]) ∧ Below w.heap.size w w' := by
  have H1 := Lib.hid (okS_calls s hs w false (by simp; exact fun a b => h ⟨a, b⟩))
  clear h
  go_enter Tryd.func7, Tryd.ntmps7
  go_wp2_with fail
  with_reducible refine H1.out.mono ?_
  rintro e w1 ⟨rfl, rfl⟩
  go_wp2
  go_ret2
  exact ⟨rfl, Below.refl _ _⟩
set_option maxRecDepth 100000 in
set_option maxHeartbeats 1000000 in
theorem impl_yes (s : ByteArray) (hs : s.size ≤ 1048576) (h : s.size ≤ 100000 ∧ AllBits s s.size) (w : World) :
    Calls Tryd.prog 8 #[.string s] w fun e w' => e = .returned (.tuple #[.string ⟨(packL s.data.toList).toArray⟩, .int .i64 0]) ∧ Below w.heap.size w w' := by
  have H1 := Lib.hid (okI_calls s hs w true (by simp [h]))
  have H2 := Lib.hid (fun W : World => packI_calls s h.1 W)
  clear h
  go_enter Tryd.func8, Tryd.ntmps8
  go_wp2_with fail
  with_reducible refine H1.out.mono ?_
  rintro e w1 ⟨rfl, hb⟩
  have HB := Lib.hid hb
  clear hb
  go_wp2_with fail
  refine (H2.out _).mono ?_
  rintro e w2 ⟨rfl, hb⟩
  have HB2 := Lib.hid (HB.out.trans (hb.mono HB.out.size))
  clear hb HB
  go_wp2
  go_ret2
  exact ⟨rfl, HB2.out⟩
set_option maxRecDepth 100000 in
set_option maxHeartbeats 1000000 in
theorem impl_no (s : ByteArray) (hs : s.size ≤ 1048576) (h : ¬ (s.size ≤ 100000 ∧ AllBits s s.size)) (w : World) :
    Calls Tryd.prog 8 #[.string s] w fun e w' => e = .returned (.tuple #[.string ⟨#[]⟩, .int .i64 7]) ∧ Below w.heap.size w w' := by
  have H1 := Lib.hid (okI_calls s hs w false (by simp; exact fun a b => h ⟨a, b⟩))
  clear h
  go_enter Tryd.func8, Tryd.ntmps8
  go_wp2_with fail
  with_reducible refine H1.out.mono ?_
  rintro e w1 ⟨rfl, hb⟩
  have HB := Lib.hid hb
  clear hb
  go_wp2
  go_ret2
  exact ⟨rfl, HB.out⟩
end Go.Proofs.YtjhndncmeedffaaDoor.pack
