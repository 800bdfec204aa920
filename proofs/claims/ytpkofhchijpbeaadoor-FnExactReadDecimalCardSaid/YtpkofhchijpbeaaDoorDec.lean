/-
  Proved: the reference function for decimal forms returns the decimal digits of its argument, behind a minus sign if it is negative (a contract for the laws on Decimal and ReadDecimal).
  Conditions: the argument is an integer of 64 bits.
-/
import Derived.Test.YtpkofhchijpbeaaDoorPost
import Derived.Lib.Hide
import Derived.Lib.SmallJoins
import Derived.Lib.ItoaLen
import Derived.Lib.Slices
import Derived.Lib.UnsafeStr
import Derived.Lib.BufferWrite
import Derived.Laws.IdiomStrings
import Derived.OwnWalk
namespace Go.Proofs.YtpkofhchijpbeaaDoor.dec
open Go.ChangeShapes Go.WideShapes Go.ChangeAt Go.RowKit Go.Joins
set_option linter.unusedVariables false

/-- The digits of a number; none for 0. -/
def D (u : Nat) : List UInt8 := if u = 0 then [] else Lib.decDigits u
theorem D_zero : D 0 = [] := rfl
theorem D_pos {u : Nat} (h : u ≠ 0) : D u = Lib.decDigits u := if_neg h
theorem D_step {u : Nat} (h : u ≠ 0) : D u = D (u / 10) ++ [UInt8.ofNat (48 + u % 10)] := by
  rw [D_pos h, Lib.decDigits]
  by_cases h1 : u < 10
  · rw [dif_pos h1, show u / 10 = 0 by omega, D_zero, show u % 10 = u by omega]; rfl
  · rw [dif_neg h1, D_pos (by omega)]
theorem D_len {u : Nat} (h : u ≤ 9223372036854775808) : (D u).length ≤ 20 := by
  unfold D
  split
  · simp
  · rw [Lib.decDigits_length]; exact Lib.nDigits_le20 u (by omega)
theorem digit_toNat (u : Nat) : (UInt8.ofNat (48 + u % 10)).toNat = 48 + u % 10 := by
  rw [UInt8.toNat_ofNat']; omega

theorem infoByte : (Tryd.prog.info? 5).map (fun i => (i.zero, i.size, i.bytes)) = some (some (.int .u8 0), 1, 1) := by kernel_rfl

/-- What a round knows: the digits that are made lie in a row of the call's own. -/
structure Made (w : World) (N u : Nat) (out : Value) (ds : List UInt8) (w' : World) : Prop where
  own : w'.ownsRow w.heap.size 5 1 out ds.length (Lib.byteCells ds)
  eq : D u ++ ds = D N
  below : Below w.heap.size w w'

set_option maxRecDepth 100000 in
set_option maxHeartbeats 2000000 in
theorem dec_nonneg (N : Nat) (hN : N ≤ 9223372036854775807) (w : World) :
    Calls Tryd.prog 13 #[.int .i64 (N : Int)] w fun e w' => e = .returned (.string ⟨(Lib.itoa (N : Int)).toArray⟩) ∧ Below w.heap.size w w' := by
  obtain ⟨i0, hi, hz0, hz1, hz2⟩ := info_parts infoByte
  go_enter Tryd.func13, Tryd.ntmps13
  go_wp2
  go_loopw [3, 4] (fun out k w' => ∃ (u : Nat) (g cap : Nat) (ds : List UInt8), u ≤ N ∧ k = .int .i64 (u : Int) ∧ out = .slice (some ⟨g, 0, none⟩) ds.length cap ∧ Made w N u (.slice (some ⟨g, 0, none⟩) ds.length cap) ds w') (fun _ k _ => (intOf k).toNat)
  case atStart =>
    exact ⟨N, w.heap.size, 0, [], Nat.le_refl _, rfl, rfl, World.ownsRow_lit w #[] 0 (Nat.le_refl _) (by simp [maxLen]) rfl, by simp, below_alloc1 _ _⟩
  case round =>
    obtain ⟨u, g, cap, ds, hu, rfl, rfl, hM⟩ := hrel
    have HM := Lib.hid hM
    have hlen : ds.length ≤ 20 := by
      have h1 := congrArg List.length hM.eq
      have h2 := D_len (u := N) (by omega)
      simp at h1
      omega
    clear hM
    by_cases h0 : u = 0
    · subst h0
      have hds : ds = D N := by have := HM.out.eq; rw [D_zero] at this; simpa using this
      by_cases hz : N = 0
      · subst hz
        have e0 : ds = [] := hds
        subst e0
        clear hds
        go_wp2
        go_ret
        exact ⟨by rw [show Lib.itoa ((0 : Nat) : Int) = [48] from by decide +kernel]; rfl, HM.out.below⟩
      · have HD : Hid (Lib.itoa (N : Int) = ds) := Lib.hid (by rw [Lib.itoa_nonneg, hds, D_pos hz])
        have hpos : 0 < ds.length := by rw [hds, D_step hz]; simp
        clear hds
        have hb : ((ds.length : Int) == 0) = false := beq_eq_false_iff_ne.2 (by omega)
        have hn : ¬ (N : Int) < 0 := by omega
        have hcv := run_convert_bytes_back (P := Tryd.prog) wr 36 9 5 ⟨g, 0, none⟩ cap ds Tryd.underlying36 Tryd.underlying5 Tryd.underlying9 (fun j hj => HM.out.own.cells (g := g) rfl j _ (by simp [Lib.byteCells, hj]))
        go_wp2
        go_ret
        exact ⟨by rw [HD.out]; rfl, HM.out.below⟩
    · have hb : ((u : Int) != 0) = true := by simp; omega
      have h0' : 0 < u := by omega
      have HU := Lib.hid h0
      clear h0
      have hsz := HM.out.below.size
      go_wp2_with (at_builtin; refine wpList_append_own _ rfl _ _ 36 rfl w.heap.size 5 i0 (.int .u8 0) 1 1 Tryd.underlying36 hi hz0 hz1 hz2 rfl (by decide) _ 1 _ rfl (World.ownsRow_lit wr #[_] 1 hsz (by simp [maxLen]) rfl) ⟨g, 0, none⟩ ds.length cap (Lib.byteCells ds) rfl (by simp [Lib.byteCells]) ((HM.out.own.alloc _).cells rfl) (Lib.byteCells_one _) (by unfold maxLen; omega) (by omega) (by simp; omega) ?_)
      intro v2 w2 hown2 hgrow _
      obtain ⟨g2, cap2, rfl⟩ := ownsRow_form hown2 (by omega)
      have hbl : Below w.heap.size w w2 := (HM.out.below.alloc hsz _).grown hgrow (by simp; omega) (fun k hk => by simp [Value.ownBlock] at hk; omega)
      have HE : Hid (Made w N (u / 10) (.slice (some ⟨g2, 0, none⟩) (UInt8.ofNat (48 + u % 10) :: ds).length cap2) (UInt8.ofNat (48 + u % 10) :: ds) w2) := Lib.hid (by
        refine ⟨?_, ?_, hbl⟩
        · have e1 : (UInt8.ofNat (48 + u % 10) :: ds).length = 1 + ds.length := by simp; omega
          have e2 : Lib.byteCells (UInt8.ofNat (48 + u % 10) :: ds) = Value.int .u8 (48 + (u : Int) % 10) :: Lib.byteCells ds := by
            simp only [Lib.byteCells, List.map_cons, digit_toNat]
            congr 2
          rw [e1, e2]
          exact hown2
        · have := HM.out.eq
          rw [D_step HU.out] at this
          simpa using this)
      have el : ((UInt8.ofNat (48 + u % 10) :: ds).length) = 1 + ds.length := by simp; omega
      rw [el] at HE
      clear hown2 hgrow hbl el
      go_wp2
      go_roundw
      case rel => exact ⟨u / 10, g2, cap2, UInt8.ofNat (48 + u % 10) :: ds, by omega, by go_num, by rw [List.length_cons, Nat.add_comm], by rw [List.length_cons, Nat.add_comm]; exact HE.out⟩
      case measure => simp [intOf]; omega
end Go.Proofs.YtpkofhchijpbeaaDoor.dec
