/-
  Proved: the reference function that reads decimal forms returns the number with this form, of at most 18 digits (a contract for the law on ReadDecimal).
  Conditions: the text has at most 1048576 bytes.
-/
import Derived.Test.YtpkofhchijpbeaaDoorDecimal
import Derived.Test.YtpkofhchijpbeaaDoorNum
namespace Go.Proofs.YtpkofhchijpbeaaDoor.number
open Go.ChangeShapes Go.WideShapes Go.ChangeAt Go.RowKit Go.Joins
open Go.Proofs.YtpkofhchijpbeaaDoor.num
open Go.Proofs.YtpkofhchijpbeaaDoor.fnExactDecimal (dec_calls)
set_option linter.unusedVariables false

def out (l : List UInt8) : Value := match res l with
  | some n => .tuple #[.int .i64 n, .bool true]
  | none => .tuple #[.int .i64 0, .bool false]
theorem out_some {l : List UInt8} {n : Int} (h : res l = some n) : out l = .tuple #[.int .i64 n, .bool true] := by unfold out; rw [h]
theorem out_none {l : List UInt8} (h : res l = none) : out l = .tuple #[.int .i64 0, .bool false] := by unfold out; rw [h]

theorem full {s : ByteArray} (h : 1 ≤ s.size) : s.toList.isEmpty = false ∧ ¬ s.toList = [] := by
  have hl : s.toList.length = s.size := by rw [ByteArray.toList_eq]; simp
  cases e : s.toList with
  | nil => rw [e] at hl; simp at hl; omega
  | cons a l => simp

/-- The digits up to k are digits, and n is what they spell. -/
structure Read (t : ByteArray) (k : Nat) (n : Int) : Prop where
  dig : ∀ c ∈ t.data.toList.take k, num.dig c
  val : n = (num.val 0 (t.data.toList.take k) : Int)
theorem Read.lt {t : ByteArray} {k : Nat} {n : Int} (h : Read t k n) (h18 : t.size ≤ 18) : 0 ≤ n ∧ n < 1000000000000000000 := by
  have := val_18 _ h.dig (by simp; omega)
  have := h.val
  omega
theorem Read.lt' {t : ByteArray} {k : Nat} {n : Int} (h : Read t k n) (hk : k ≤ 17) : 0 ≤ n ∧ n < 100000000000000000 := by
  have h1 := val_lt _ h.dig 0
  have h2 : 10 ^ (t.data.toList.take k).length ≤ 10 ^ 17 := Nat.pow_le_pow_right (by omega) (by simp; omega)
  have h3 : (10 : Nat) ^ 17 = 100000000000000000 := by decide
  have := h.val
  omega
theorem getAt (t : ByteArray) (k : Nat) (h : k < t.size) : t.data.toList[k]? = some t[k] := by
  have : k < t.data.toList.length := by simpa using h
  rw [List.getElem?_eq_getElem this]; rfl
theorem Read.step {t : ByteArray} {k : Nat} {n : Int} (h : Read t k n) (hk : k < t.size) (h1 : 48 ≤ (t[k].toNat : Int)) (h2 : (t[k].toNat : Int) ≤ 57) : Read t (k + 1) (10 * n + ((t[k].toNat : Int) - 48)) := by
  have hk' : k < t.data.toList.length := by simpa using hk
  have e : t.data.toList.take (k + 1) = t.data.toList.take k ++ [t[k]] := by rw [List.take_succ_eq_append_getElem hk']; rfl
  refine ⟨?_, ?_⟩
  · rw [e]
    intro c hc
    rw [List.mem_append] at hc
    rcases hc with hc | hc
    · exact h.dig c hc
    · obtain rfl : c = t[k] := by simpa using hc
      exact ⟨by omega, by omega⟩
  · rw [e, val_snoc, h.val]
    omega

/-- The end of the reading: the number's own form is held against the text. -/
theorem res_at {l : List UInt8} {n : Int} (hn : numOf l = n) (h18 : (rest l).length ≤ 18) : (Lib.itoa n = l → res l = some n) ∧ (Lib.itoa n ≠ l → res l = none) := by
  subst hn
  constructor
  · intro h; exact res_of _ _ h18 h
  · intro h; unfold res; rw [if_neg]; exact fun ⟨_, e⟩ => h e
theorem res_bad {l : List UInt8} {c : UInt8} (hc : c ∈ rest l) (h : ¬ dig c) : res l = none :=
  res_none l fun n _ e => h (by
    have := (itoa_rest n).1
    rw [e] at this
    rw [this] at hc
    exact digits_dig _ c hc)
theorem res_empty {l : List UInt8} (h : rest l = []) : res l = none :=
  res_none l fun n _ e => by
    have := (itoa_rest n).1
    rw [e, h] at this
    exact digits_ne _ this.symm

theorem ext1 (s : ByteArray) (r : List UInt8) (hr : s.data.toList = 45 :: r) : (s.extract 1 s.size).data.toList = r ∧ (s.extract 1 s.size).size = r.length := by
  have e : (s.extract 1 s.size).data.toList = r := by
    have hl := congrArg List.length hr
    simp at hl
    rw [ByteArray.data_extract, Array.toList_extract, List.extract_eq_take_drop, hr]
    exact List.take_of_length_le (by simp; omega)
  exact ⟨e, by rw [← e]; simp⟩
theorem string_neq (a : List UInt8) (s : ByteArray) : ((⟨a.toArray⟩ : ByteArray) = s) ↔ a = s.data.toList := by
  constructor
  · rintro rfl; simp
  · rintro rfl; exact bytes_eta s

set_option maxHeartbeats 2000000 in
set_option maxRecDepth 100000 in
theorem spec_neg (s : ByteArray) (w : World) (hs : s.size ≤ 1048576) (r : List UInt8) (hr : s.data.toList = 45 :: r) (h1 : 1 ≤ r.length) (h18 : r.length ≤ 18) :
    Calls Tryd.prog 15 #[.string s] w fun e w' => e = .returned (out s.data.toList) ∧ Below w.heap.size w w' := by
  have hsz : s.size = r.length + 1 := by have := congrArg List.length hr; simpa using this
  have hz1 : r.length + 1 ≤ s.size := by omega
  have hz2 : s.size ≤ r.length + 1 := by omega
  have hp : 0 < s.size := by omega
  have h45 : ((s[0].toNat : Int) == 45) = true := by
    have := getAt s 0 hp
    rw [hr] at this
    simp at this
    rw [← this]; rfl
  obtain ⟨he, hne⟩ := full hp
  obtain ⟨hx1, hx2⟩ := ext1 s r hr
  have HR := Lib.hid hr
  clear hr hsz
  go_enter Tryd.func15, Tryd.ntmps15
  go_wp2
  generalize s.extract 1 s.size = t at *
  have HX := Lib.hid hx1
  have hx3 : t.size ≤ r.length := by omega
  have hx4 : r.length ≤ t.size := by omega
  clear hx1 hx2 he hne h45
  have hrest : Hid (rest s.data.toList = t.data.toList) := Lib.hid (by rw [HR.out, HX.out]; rfl)
  have hneg : Hid (isNeg s.data.toList = true) := Lib.hid (by rw [HR.out]; rfl)
  have hts : t.size < s.size := by omega
  clear HR HX
  go_loop [5, 6] (fun n i => ∃ (k : Nat) (m : Int), k ≤ t.size ∧ i = .int .i64 k ∧ n = .int .i64 m ∧ Hid (Read t k m)) (fun _ i => t.size - (intOf i).toNat)
  case atStart => exact ⟨0, 0, Nat.zero_le _, rfl, rfl, Lib.hid ⟨by simp, by simp [num.val]⟩⟩
  case round =>
    obtain ⟨k, m, hk, rfl, rfl, hrd⟩ := hrel
    by_cases hlt : k < t.size
    · obtain ⟨m0, m1⟩ := hrd.out.lt' (by omega)
      by_cases hd : 48 ≤ (t[k].toNat : Int) ∧ (t[k].toNat : Int) ≤ 57
      · obtain ⟨d1, d2⟩ := hd
        have d3 : decide ((t[k].toNat : Int) ≤ 57) = true := decide_eq_true d2
        have HS := Lib.hid (hrd.out.step hlt d1 d2)
        clear hrd
        go_wp2
        go_round
        case rel => exact ⟨k + 1, _, by omega, by go_num, rfl, HS⟩
        case measure => simp [intOf]; omega
      · have HF : Hid (res s.data.toList = none) := Lib.hid (res_bad (c := t[k]) (by rw [hrest.out]; exact List.mem_of_getElem? (getAt t k hlt)) (fun h => hd (by unfold dig at h; omega)))
        clear hrd
        by_cases d1 : 48 ≤ (t[k].toNat : Int)
        · have d2 : decide ((t[k].toNat : Int) ≤ 57) = false := decide_eq_false (fun h => hd ⟨d1, h⟩)
          clear hd
          go_wp2
          go_ret2
          exact ⟨by rw [out_none HF.out]; rfl, Below.refl _ _⟩
        · clear hd
          go_wp2
          go_ret2
          exact ⟨by rw [out_none HF.out]; rfl, Below.refl _ _⟩
    · obtain ⟨m0, m1⟩ := hrd.out.lt (by omega)
      have HN : Hid (numOf s.data.toList = -m) := Lib.hid (by
        have h1 := hrd.out.val
        rw [List.take_of_length_le (by simp; omega)] at h1
        unfold num.numOf
        rw [hrest.out, hneg.out, h1]
        rfl)
      have HL : Hid ((rest s.data.toList).length ≤ 18) := Lib.hid (by rw [hrest.out]; simp; omega)
      clear hrd
      go_wp2_with fail
      refine (dec_calls (-m) (by omega) (by omega) _).mono ?_
      rintro e w1 ⟨rfl, hb⟩
      have HB := Lib.hid hb
      clear hb
      by_cases e : Lib.itoa (-m) = s.data.toList
      · have HO := Lib.hid (out_some ((res_at HN.out HL.out).1 e))
        have es := (string_neq _ _).2 e
        clear e
        rw [es]
        go_wp2
        go_ret2
        exact ⟨by rw [HO.out]; rfl, HB.out⟩
      · have HO := Lib.hid (out_none ((res_at HN.out HL.out).2 e))
        have es : (Lib.itoa (-m) == s.toList) = false := by rw [ByteArray.toList_eq]; simpa using e
        clear e
        go_wp2
        go_ret2
        exact ⟨by rw [HO.out]; rfl, HB.out⟩

set_option maxHeartbeats 2000000 in
set_option maxRecDepth 100000 in
theorem spec_pos (s : ByteArray) (w : World) (h1 : 1 ≤ s.size) (h18 : s.size ≤ 18) (hr : s.data.toList.head? ≠ some 45) :
    Calls Tryd.prog 15 #[.string s] w fun e w' => e = .returned (out s.data.toList) ∧ Below w.heap.size w w' := by
  have hp : 0 < s.size := h1
  have h45 : ((s[0].toNat : Int) == 45) = false := by
    have h := getAt s 0 hp
    rw [← List.head?_eq_getElem?] at h
    rw [h] at hr
    refine beq_eq_false_iff_ne.2 fun e => hr ?_
    congr 1
    apply UInt8.toNat.inj
    show s[0].toNat = 45
    omega
  obtain ⟨he, hne⟩ := full hp
  have hrest : Hid (rest s.data.toList = s.data.toList) := Lib.hid (rest_other _ hr).1
  have hneg : Hid (isNeg s.data.toList = false) := Lib.hid (rest_other _ hr).2
  clear hr
  go_enter Tryd.func15, Tryd.ntmps15
  go_wp2
  clear he hne h45
  go_loop [5, 6] (fun n i => ∃ (k : Nat) (m : Int), k ≤ s.size ∧ i = .int .i64 k ∧ n = .int .i64 m ∧ Hid (Read s k m)) (fun _ i => s.size - (intOf i).toNat)
  case atStart => exact ⟨0, 0, Nat.zero_le _, rfl, rfl, Lib.hid ⟨by simp, by simp [num.val]⟩⟩
  case round =>
    obtain ⟨k, m, hk, rfl, rfl, hrd⟩ := hrel
    by_cases hlt : k < s.size
    · obtain ⟨m0, m1⟩ := hrd.out.lt' (by omega)
      by_cases hd : 48 ≤ (s[k].toNat : Int) ∧ (s[k].toNat : Int) ≤ 57
      · obtain ⟨d1, d2⟩ := hd
        have d3 : decide ((s[k].toNat : Int) ≤ 57) = true := decide_eq_true d2
        have HS := Lib.hid (hrd.out.step hlt d1 d2)
        clear hrd
        go_wp2
        go_round
        case rel => exact ⟨k + 1, _, by omega, by go_num, rfl, HS⟩
        case measure => simp [intOf]; omega
      · have HF : Hid (res s.data.toList = none) := Lib.hid (res_bad (c := s[k]) (by rw [hrest.out]; exact List.mem_of_getElem? (getAt s k hlt)) (fun h => hd (by unfold dig at h; omega)))
        clear hrd
        by_cases d1 : 48 ≤ (s[k].toNat : Int)
        · have d2 : decide ((s[k].toNat : Int) ≤ 57) = false := decide_eq_false (fun h => hd ⟨d1, h⟩)
          clear hd
          go_wp2
          go_ret2
          exact ⟨by rw [out_none HF.out]; rfl, Below.refl _ _⟩
        · clear hd
          go_wp2
          go_ret2
          exact ⟨by rw [out_none HF.out]; rfl, Below.refl _ _⟩
    · obtain ⟨m0, m1⟩ := hrd.out.lt (by omega)
      have HN : Hid (numOf s.data.toList = m) := Lib.hid (by
        have h1 := hrd.out.val
        rw [List.take_of_length_le (by simp; omega)] at h1
        unfold num.numOf
        rw [hrest.out, hneg.out, h1]
        rfl)
      have HL : Hid ((rest s.data.toList).length ≤ 18) := Lib.hid (by rw [hrest.out]; simp; omega)
      clear hrd
      go_wp2_with fail
      refine (dec_calls (m) (by omega) (by omega) _).mono ?_
      rintro e w1 ⟨rfl, hb⟩
      have HB := Lib.hid hb
      clear hb
      by_cases e : Lib.itoa (m) = s.data.toList
      · have HO := Lib.hid (out_some ((res_at HN.out HL.out).1 e))
        have es := (string_neq _ _).2 e
        clear e
        rw [es]
        go_wp2
        go_ret2
        exact ⟨by rw [HO.out]; rfl, HB.out⟩
      · have HO := Lib.hid (out_none ((res_at HN.out HL.out).2 e))
        have es : (Lib.itoa (m) == s.toList) = false := by rw [ByteArray.toList_eq]; simpa using e
        clear e
        go_wp2
        go_ret2
        exact ⟨by rw [HO.out]; rfl, HB.out⟩

set_option maxHeartbeats 2000000 in
set_option maxRecDepth 100000 in
theorem spec_out (s : ByteArray) (w : World) (hs : s.size ≤ 1048576) (h : ¬ (1 ≤ (rest s.data.toList).length ∧ (rest s.data.toList).length ≤ 18)) :
    Calls Tryd.prog 15 #[.string s] w fun e w' => e = .returned (out s.data.toList) ∧ Below w.heap.size w w' := by
  have HF : Hid (res s.data.toList = none) := Lib.hid (by
    by_cases h0 : (rest s.data.toList).length = 0
    · exact res_empty (List.eq_nil_of_length_eq_zero h0)
    · exact res_long _ (by omega))
  by_cases hp : 0 < s.size
  · obtain ⟨he, hne⟩ := full hp
    by_cases hh : s.data.toList.head? = some 45
    · obtain ⟨r, hr⟩ : ∃ r, s.data.toList = 45 :: r := by
        cases e : s.data.toList with
        | nil => rw [e] at hh; simp at hh
        | cons c r => rw [e] at hh; simp at hh; exact ⟨r, by rw [hh]⟩
      have h45 : ((s[0].toNat : Int) == 45) = true := by
        have := getAt s 0 hp
        rw [hr] at this
        simp at this
        rw [← this]; rfl
      have hsz : s.size = r.length + 1 := by have := congrArg List.length hr; simpa using this
      rw [hr] at h
      have h' : ¬ (1 ≤ r.length ∧ r.length ≤ 18) := h
      by_cases hz : 1 ≤ s.size - 1
      · have hz2 : 18 < s.size - 1 := by omega
        clear hr hsz hh h h'
        go_enter Tryd.func15, Tryd.ntmps15
        go_wp2
        go_ret2
        exact ⟨by rw [out_none HF.out]; rfl, Below.refl _ _⟩
      · clear hr hsz hh h h'
        go_enter Tryd.func15, Tryd.ntmps15
        go_wp2
        go_ret2
        exact ⟨by rw [out_none HF.out]; rfl, Below.refl _ _⟩
    · have h45 : ((s[0].toNat : Int) == 45) = false := by
        have hg := getAt s 0 hp
        rw [← List.head?_eq_getElem?] at hg
        rw [hg] at hh
        refine beq_eq_false_iff_ne.2 fun e => hh ?_
        congr 1
        apply UInt8.toNat.inj
        show s[0].toNat = 45
        omega
      rw [(rest_other _ hh).1] at h
      have hz : 18 < s.size := by
        have : s.data.toList.length = s.size := by simp
        omega
      clear h hh
      go_enter Tryd.func15, Tryd.ntmps15
      go_wp2
      go_ret2
      exact ⟨by rw [out_none HF.out]; rfl, Below.refl _ _⟩
  · have he : s.toList.isEmpty = true ∧ s.toList = [] := by
      have hl : s.toList.length = s.size := by rw [ByteArray.toList_eq]; simp
      have : s.toList = [] := List.eq_nil_of_length_eq_zero (by omega)
      rw [this]; simp
    obtain ⟨he, hne⟩ := he
    have hz : s.size < 1 := by omega
    clear h hp
    go_enter Tryd.func15, Tryd.ntmps15
    go_wp2
    go_ret2
    exact ⟨by rw [out_none HF.out]; rfl, Below.refl _ _⟩

theorem number_calls (s : ByteArray) (w : World) (hs : s.size ≤ 1048576) :
    Calls Tryd.prog 15 #[.string s] w fun e w' => e = .returned (out s.data.toList) ∧ Below w.heap.size w w' := by
  by_cases h : 1 ≤ (rest s.data.toList).length ∧ (rest s.data.toList).length ≤ 18
  · by_cases hh : s.data.toList.head? = some 45
    · obtain ⟨r, hr⟩ : ∃ r, s.data.toList = 45 :: r := by
        cases e : s.data.toList with
        | nil => rw [e] at hh; simp at hh
        | cons c r => rw [e] at hh; simp at hh; exact ⟨r, by rw [hh]⟩
      rw [hr] at h
      have h' : 1 ≤ r.length ∧ r.length ≤ 18 := h
      exact spec_neg s w hs r hr h'.1 h'.2
    · rw [(rest_other _ hh).1] at h
      have : s.data.toList.length = s.size := by simp
      exact spec_pos s w (by omega) (by omega) hh
  · exact spec_out s w hs h
end Go.Proofs.YtpkofhchijpbeaaDoor.number
