/-
  Proved: what the program's reader of bits does.
  Conditions: none.
-/
import Derived.Test.YtjhndncmeedffaaDoorReadS
import Derived.Test.YtjhndncmeedffaaDoorMRiceBits
namespace Go.Proofs.YtjhndncmeedffaaDoor.readR
open Go.ChangeShapes Go.WideShapes Go.ChangeAt Go.RowKit Go.Joins
open Go.Proofs.YtjhndncmeedffaaDoor.core Go.Proofs.YtjhndncmeedffaaDoor.rows Go.Proofs.YtjhndncmeedffaaDoor.bits Go.Proofs.YtjhndncmeedffaaDoor.numS Go.Proofs.YtjhndncmeedffaaDoor.ints Go.Proofs.YtjhndncmeedffaaDoor.riceI
set_option linter.unusedVariables false
set_option linter.unusedSimpArgs false

/-- A reader in block b that has the bits t before it. -/
def Rd (w : World) (b : Nat) (t : ByteArray) : Prop := w.heap[b]? = some (.cells #[.string t] 41 (0, 0))
theorem Rd.cell {w : World} {b : Nat} {t : ByteArray} (h : Rd w b t) : w.cell? ⟨b, 0, none⟩ = some (.string t) ∧ w.frozen? ⟨b, 0, none⟩ = false := by
  have c0 := cell_of_block h 0
  simp at c0
  exact ⟨c0, unfrozen_of_block h 0⟩
theorem Rd.set {w w' : World} {b : Nat} {t : ByteArray} (h : Rd w b t) (u : ByteArray) (hw : w'.heap = (w.setCell ⟨b, 0, none⟩ (.string u)).heap) (h1 : w'.os = w.os) (h2 : w'.tape = w.tape) (h3 : w'.output = w.output) : Rd w' b u ∧ OnlyF (fun k => k = b) w w' := by
  have b1 := block_setCell (i := 0) h (.string u)
  refine ⟨by unfold Rd; rw [hw, b1]; simp, ?_⟩
  have h := (OnlyF.refl (fun k => k = b) w).setCell (g := b) (i := 0) rfl (.string u)
  exact ⟨h1, h2, h3, by rw [hw]; exact h.size, fun k hk hf => by rw [hw]; exact h.block k hk hf⟩
theorem ones_at0 (s : ByteArray) : ∃ q : Nat, q = ones s.data.toList 20 ∧ q ≤ 20 ∧ q ≤ s.size ∧ (∀ j (h : j < q) (h2 : j < s.size), s[j].toNat = 49) ∧ (q < 20 → ∀ h2 : q < s.size, s[q].toNat ≠ 49) := by
  obtain ⟨h1, h2⟩ := ones_le s.data.toList 20
  rw [pack.len_eq] at h2
  exact ⟨_, rfl, h1, h2, fun j h hh => ones_all s.data.toList 20 j h, fun h hh => ones_stop s.data.toList 20 h (by rw [pack.len_eq]; exact hh)⟩

set_option maxRecDepth 100000 in
set_option maxHeartbeats 2000000 in
theorem onesR_calls (b : Nat) (t : ByteArray) (hs : t.size ≤ 100000) (w : World) (h : Rd w b t) (q : Nat) (hq : q = ones t.data.toList 20) :
    Calls Tryd.prog 40 #[.pointer (some ⟨b, 0, none⟩)] w fun e w' => e = .returned (.int .i64 (q : Nat)) ∧ Rd w' b (t.extract q t.size) ∧ OnlyF (fun k => k = b) w w' := by
  obtain ⟨q', hq0, hq1, hq2, hq3, hq4⟩ := ones_at0 t
  obtain rfl : q' = q := by rw [hq, hq0]
  have HR := Lib.hid h
  have H3 := Lib.hid hq3
  have H4 := Lib.hid hq4
  obtain ⟨c0, f0⟩ := h.cell
  clear hq0 hq hq3 hq4 h
  go_enter Tryd.func40, Tryd.ntmps40
  go_wp2
  go_loop [3] (fun i => ∃ j : Nat, j ≤ q' ∧ i = .int .i64 (j : Int)) (fun i => q' - (intOf i).toNat)
  case atStart => exact ⟨0, Nat.zero_le _, rfl⟩
  case round =>
    obtain ⟨j, hj, rfl⟩ := hrel
    by_cases hlt : j < q'
    · have h20 : (j : Int) < 20 := by omega
      have hin : j < t.size := by omega
      have h49 := H3.out j hlt (by omega)
      go_wp2
      go_round
      case rel => exact ⟨j + 1, by omega, by go_num⟩
      case measure => simp [intOf]; omega
    · obtain rfl : j = q' := by omega
      clear hlt hj H3
      by_cases h20 : j = 20
      · have h20' : ((j : Int) < 20) = False := by simp; omega
        subst h20
        clear H4
        go_wp2
        go_ret
        exact ⟨rfl, HR.out.set _ rfl rfl rfl rfl⟩
      · have h20'' : (j : Int) < 20 := by omega
        by_cases hend : j < t.size
        · have h49 := H4.out (by omega) hend
          have h49b : ((t[j].toNat : Int) == 49) = false := by simp; omega
          clear H4
          go_wp2
          go_ret
          exact ⟨rfl, HR.out.set _ rfl rfl rfl rfl⟩
        · obtain rfl : j = t.size := by omega
          clear H4
          go_wp2
          go_ret
          exact ⟨rfl, HR.out.set _ rfl rfl rfl rfl⟩

theorem val_le40 (l : List UInt8) (h : ∀ b ∈ l, isBit b) (n : Nat) (hn : n ≤ 40) (hl : n ≤ l.length) (k : Nat) (hk : k ≤ n) : val (l.take k) ≤ 1099511627776 := by
  have h1 := val_lt l h k (by omega)
  have h2 : 2 ^ k ≤ 2 ^ 40 := Nat.pow_le_pow_right (by decide) (by omega)
  have h3 : 2 ^ 40 = 1099511627776 := by decide
  omega
set_option maxRecDepth 100000 in
set_option maxHeartbeats 2000000 in
theorem numberR_no (b : Nat) (t : ByteArray) (hs : t.size ≤ 100000) (v : Nat) (hv : v ≤ 40) (w : World) (h : Rd w b t) (hlt : t.size < v) :
    Calls Tryd.prog 42 #[.pointer (some ⟨b, 0, none⟩), .int .i64 v] w fun e w' => e = .returned (.tuple #[.int .i64 0, .bool false]) ∧ w = w' := by
  obtain ⟨c0, f0⟩ := h.cell
  clear h
  go_enter Tryd.func42, Tryd.ntmps42
  go_wp2
  go_ret2
  exact ⟨rfl, by trivial⟩
set_option maxRecDepth 100000 in
set_option maxHeartbeats 2000000 in
theorem numberR_yes (b : Nat) (t : ByteArray) (hs : t.size ≤ 100000) (hb : ∀ x ∈ t.data.toList, isBit x) (v : Nat) (hv : v ≤ 40) (w : World) (h : Rd w b t) (hle : v ≤ t.size) :
    Calls Tryd.prog 42 #[.pointer (some ⟨b, 0, none⟩), .int .i64 v] w fun e w' => e = .returned (.tuple #[.int .i64 (val (t.data.toList.take v) : Nat), .bool true]) ∧ Rd w' b (t.extract v t.size) ∧ OnlyF (fun k => k = b) w w' := by
  have HL := Lib.hid (pack.len_eq t)
  have HV := Lib.hid (val_le40 t.data.toList hb v hv (by rw [HL.out]; exact hle))
  have HT := Lib.hid (val_take t.data.toList)
  have HB := Lib.hid hb
  have HR := Lib.hid h
  obtain ⟨c0, f0⟩ := h.cell
  clear hb h
  go_enter Tryd.func42, Tryd.ntmps42
  go_wp2
  go_loop [6, 16] (fun z i => ∃ k x : Nat, k ≤ v ∧ x ≤ 1099511627776 ∧ i = .int .i64 (k : Int) ∧ z = .int .i64 (x : Int) ∧ Hid (x = val (t.data.toList.take k))) (fun _ i => v - (intOf i).toNat)
  case atStart => exact ⟨0, 0, Nat.zero_le _, by omega, rfl, rfl, Lib.hid rfl⟩
  case round =>
    obtain ⟨k, x, hk, hx, rfl, rfl, HZ⟩ := hrel
    by_cases hlt : k < v
    · have hkt : k < t.size := by omega
      have hbk : isBit t[k] := HB.out _ (by have := List.getElem_mem (l := t.data.toList) (n := k) (by rw [HL.out]; exact hkt); exact this)
      have HS := Lib.hid (show val (t.data.toList.take (k + 1)) = 2 * x + (t[k].toNat - 48) by rw [HT.out k (by rw [HL.out]; exact hkt), HZ.out]; rfl)
      have HU := Lib.hid (HV.out (k + 1) (by omega))
      rcases hbk with h48 | h49
      · rw [h48] at HS
        clear HV HT
        go_wp2
        go_round
        case rel => exact ⟨k + 1, 2 * x, by omega, by have := HU.out; have := HS.out; omega, by go_num, by go_num, Lib.hid (by rw [HS.out]; omega)⟩
        case measure => simp [intOf]; omega
      · rw [h49] at HS
        clear HV HT
        go_wp2
        go_round
        case rel => exact ⟨k + 1, 2 * x + 1, by omega, by have := HU.out; have := HS.out; omega, by go_num, by go_num, Lib.hid (by rw [HS.out])⟩
        case measure => simp [intOf]; omega
    · obtain rfl : k = v := by omega
      have HZ2 := Lib.hid HZ.out
      clear HZ HT HV
      go_wp2
      go_ret2
      exact ⟨by rw [← HZ2.out]; rfl, HR.out.set _ rfl rfl rfl rfl⟩
end Go.Proofs.YtjhndncmeedffaaDoor.readR
