/-
  Proved: for all arguments, the call of the law on bits returns true and leaves its arguments as they were.
  Conditions: none beyond the row's own.
-/
import Derived.Test.YtjhndncmeedffaaDoorNums
import Derived.Test.YtjhndncmeedffaaDoorResI
import Derived.Test.YtjhndncmeedffaaDoorBest
import Derived.Test.YtjhndncmeedffaaDoorNumB
import Derived.Test.YtjhndncmeedffaaDoorUnp
import Derived.Test.YtjhndncmeedffaaDoorPackI
import Derived.Test.YtjhndncmeedffaaDoorUnpPack
import Derived.Test.YtjhndncmeedffaaDoorMRiceBits
namespace Go.Proofs.YtjhndncmeedffaaDoor.fnBits
open Go.ChangeShapes Go.WideShapes Go.ChangeAt Go.RowKit Go.Joins
open Go.Proofs.YtjhndncmeedffaaDoor.core Go.Proofs.YtjhndncmeedffaaDoor.rows Go.Proofs.YtjhndncmeedffaaDoor.bits Go.Proofs.YtjhndncmeedffaaDoor.ints Go.Proofs.YtjhndncmeedffaaDoor.src Go.Proofs.YtjhndncmeedffaaDoor.resid
set_option linter.unusedVariables false
set_option linter.unusedSimpArgs false

theorem room {w : World} {base m G C : Nat} {xs : List Value} (h : w.ownsRow base 2 1 (.slice (some ⟨G, 0, none⟩) m C) m xs) : m ≤ C := by
  obtain ⟨_, h⟩ := h
  rcases h with ⟨h, _⟩ | ⟨g, cap, cur, h, _, _, h3, _⟩
  · cases h
  · cases h; exact h3
theorem row_view {w : World} {base m G C : Nat} {f : Nat → Int} (h : w.ownsRow base 2 1 (.slice (some ⟨G, 0, none⟩) m C) m ((lst f m).map (Value.int .i64))) (hf : ∀ i, i < m → inI64 (f i)) : IntsAt w (some ⟨G, 0, none⟩) m f := by
  rcases Nat.eq_zero_or_pos m with rfl | hp
  · exact fun i hi => absurd hi (by omega)
  · exact row_ints h hf hp
theorem resid_all {L : Nat} {f : Nat → Int} (h : AllIn 125000000 f L) : AllIn 1000000000 (resid f) L := fun i hi => by
  have h1 := h i hi
  have h2 := guess_in (allIn_le h (Nat.le_of_lt hi))
  unfold resid
  omega
theorem in64 {L : Nat} {f : Nat → Int} {M : Int} (hM : M ≤ 1000000000) (h : AllIn M f L) : ∀ i, i < L → inI64 (f i) := fun i hi => by
  have h1 := h i hi
  unfold inI64
  omega
theorem bytes_mono {w : World} {L L' : Nat} {A : Option Addr} {n : Nat} (h : BytesAt w L A n) (hL : L ≤ L') : BytesAt w L' A n := fun i hi => by
  obtain ⟨b, o, v, e, h1, h2, h3, h4⟩ := h i hi
  exact ⟨b, o, v, e, Nat.lt_of_lt_of_le h1 hL, h2, h3, h4⟩
theorem bits_all {s : ByteArray} (h : ∀ b ∈ s.data.toList, isBit b) : pack.AllBits s s.size := fun i hi => by
  have hi' : i < s.data.toList.length := by simpa using hi
  rw [List.getElem?_eq_getElem hi', Option.getD_some]
  exact h _ (List.getElem_mem _)
/-- A number's bits, packed and unpacked. -/
theorem trip (n v : Nat) : ∃ s1 sp s2 : ByteArray, s1 = ⟨(num n v).toArray⟩ ∧ sp = ⟨(pack.packL s1.data.toList).toArray⟩ ∧ s2 = ⟨(unp sp.data.toList).toArray⟩ ∧ s1.size = v ∧ sp.size = (v + 7) / 8 ∧ s2.size = 8 * ((v + 7) / 8) ∧ s2.extract 0 s1.size = s1 ∧ pack.AllBits s1 s1.size := by
  have hl := num_length n v
  have hb := num_bits n v
  have ht := pack.unp_packL (num n v) hb
  have h1 : (⟨(num n v).toArray⟩ : ByteArray).size = v := by simp [ByteArray.size, hl]
  refine ⟨_, _, _, rfl, rfl, rfl, h1, ?_, ?_, ?_, ?_⟩
  · simp [ByteArray.size, pack.packL_length, hl]
  · simp [ByteArray.size, unp_length, pack.packL_length, hl]
  · rw [h1]
    rw [hl] at ht
    apply ByteArray.ext
    apply Array.toList_inj.1
    simp [ByteArray.data_extract, ht]
  · exact bits_all (by simpa using hb)

set_option maxRecDepth 100000 in
set_option maxHeartbeats 8000000 in
theorem walk (A : Option Addr) (n c : Nat) (D : Option Addr) (m d : Nat) (w : World) (hn : n ≤ maxLen) (hm : m ≤ maxLen) (hA : BytesAt w w.heap.size A n) (hD : BytesAt w w.heap.size D m) :
    Calls Tryd.prog 6 #[.slice A n c, .slice D m d] w fun e w' => e = .returned (.bool true) ∧ Below w.heap.size w w' := by
  by_cases hl : 3000 < n ∨ 3000 < m
  · have H0 := Lib.hid (long_calls A D n c m d w hn hm true (by simp; exact hl))
    clear hn hm hA hD hl
    go_enter Tryd.func6, Tryd.ntmps6
    go_wp2_with fail
    with_reducible refine H0.out.mono ?_
    rintro e w1 ⟨rfl, rfl⟩
    go_wp2
    go_ret
    exact ⟨rfl, Below.refl _ _⟩
  · have H0 := Lib.hid (long_calls A D n c m d w hn hm false (by simp; omega))
    have hn2 : n ≤ 3000 := by omega
    have hm2 : m ≤ 3000 := by omega
    have HD := Lib.hid hD
    obtain ⟨y0, hy0, hat0⟩ := at_calls A n c 0 256 w w.heap.size hn2 (by omega) (by omega) (by omega) hA
    obtain ⟨y1, hy1, hat1⟩ := at_calls A n c 1 256 w w.heap.size hn2 (by omega) (by omega) (by omega) hA
    obtain ⟨y2, hy2, hat2⟩ := at_calls A n c 2 9 w w.heap.size hn2 (by omega) (by omega) (by omega) hA
    have HY0 : Hid (Calls Tryd.prog 13 #[.slice A n c, .int .i64 0, .int .i64 256] w fun e w' => e = .returned (.int .i64 (y0 : Int)) ∧ w = w') := Lib.hid (hat0 w (Below.refl _ _))
    have HY1 : Hid (Calls Tryd.prog 13 #[.slice A n c, .int .i64 1, .int .i64 256] w fun e w' => e = .returned (.int .i64 (y1 : Int)) ∧ w = w') := Lib.hid (hat1 w (Below.refl _ _))
    have HY2 : Hid (Calls Tryd.prog 13 #[.slice A n c, .int .i64 2, .int .i64 9] w fun e w' => e = .returned (.int .i64 (y2 : Int)) ∧ w = w') := Lib.hid (hat2 w (Below.refl _ _))
    obtain ⟨N, hN⟩ : ∃ N, N = y0 + 256 * y1 := ⟨_, rfl⟩
    obtain ⟨v, hv⟩ : ∃ v, v = 16 + y2 := ⟨_, rfl⟩
    have hvl : 16 ≤ v := by omega
    have hvu : v ≤ 24 := by omega
    have hNv : N < 2 ^ v := Nat.lt_of_lt_of_le (show N < 2 ^ 16 by have : 2 ^ 16 = 65536 := by decide
                                                                   omega) (Nat.pow_le_pow_right (by decide) hvl)
    obtain ⟨s1, sp, s2, e1, ep, e2, z1, zp, z2, hx, hbits⟩ := trip N v
    have H1 := Lib.hid (numB.impl_yes N v (by omega) (by omega) hNv w)
    rw [← e1] at H1
    have H2 : Hid (∀ W : World, _) := Lib.hid (fun W : World => pack.impl_yes s1 (by omega) ⟨by omega, hbits⟩ W)
    rw [← ep] at H2
    have H3 : Hid (∀ W : World, _) := Lib.hid (fun W : World => unpack.impl_yes sp (by omega) W)
    rw [← e2] at H3
    have hs2 : v ≤ s2.size ∧ s2.size ≤ v + 7 := by omega
    have HNE := Lib.hid (show (y0 : Int) + 256 * (y1 : Int) = (N : Int) by omega)
    have HVE := Lib.hid (show (16 : Int) + (y2 : Int) = (v : Int) by omega)
    have HX := Lib.hid hx
    have Hz1 := Lib.hid z1
    have Hs2 := Lib.hid hs2
    clear e1 ep e2 z1 zp z2 hx hbits hs2 hNv hN hv hA hD hl hn hm hat0 hat1 hat2
    go_enter Tryd.func6, Tryd.ntmps6
    go_wp2_with fail
    with_reducible refine H0.out.mono ?_
    rintro e w1 ⟨rfl, rfl⟩
    go_wp2_with fail
    with_reducible refine HY0.out.mono ?_
    rintro e w1 ⟨rfl, rfl⟩
    go_wp2_with fail
    with_reducible refine HY1.out.mono ?_
    rintro e w1 ⟨rfl, rfl⟩
    go_wp2_with fail
    with_reducible refine HY2.out.mono ?_
    rintro e w1 ⟨rfl, rfl⟩
    go_wp2_with fail
    rw [HNE.out, HVE.out]
    with_reducible refine H1.out.mono ?_
    rintro e w1 ⟨rfl, hb⟩
    have HB1 := Lib.hid hb
    have H2' := Lib.hid (H2.out w1)
    clear hb H0 HY0 HY1 HY2 H1 H2
    go_wp2_with fail
    with_reducible refine H2'.out.mono ?_
    rintro e w2 ⟨rfl, hb⟩
    have HB2 := Lib.hid (HB1.out.trans (hb.mono HB1.out.size))
    have H3' := Lib.hid (H3.out w2)
    clear hb H2' HB1 H3
    go_wp2_with fail
    with_reducible refine H3'.out.mono ?_
    rintro e w3 ⟨rfl, hb⟩
    have HB3 := Lib.hid (HB2.out.trans (hb.mono HB2.out.size))
    clear hb H3' HB2
    clear hy0 hy1 hy2 HNE HVE
    obtain ⟨hs2a, hs2b⟩ := Hs2.out
    have hx : (!(s2.extract 0 v).toList == s1.toList) = false := by
      have h := HX.out
      rw [Hz1.out] at h
      rw [h]
      simp
    have z1 := Hz1.out
    have ha : (16 : Int) ≤ (v : Int) := by omega
    have ha2 : ¬ (s2.size : Int) < (v : Int) := by omega
    have ha3 : ¬ (v : Int) + 7 < (s2.size : Int) := by omega
    have H4 := Lib.hid (nums_calls D m d w3 hm2 (bytes_mono (HD.out.kept HB3.out) HB3.out.size))
    clear HX Hz1 Hs2
    go_wp2_with fail
    with_reducible refine H4.out.mono ?_
    rintro e w4 ⟨k, G, C, f, hk, hf, rfl, ho, hb⟩
    have HF := Lib.hid (show AllIn 125000000 f k from fun i hi => by have := hf i hi; omega)
    have HV := Lib.hid (row_view ho (in64 (by omega) HF.out))
    have HB4 := Lib.hid (HB3.out.trans (hb.mono HB3.out.size))
    have H5 := Lib.hid (residS_law (some ⟨G, 0, none⟩) k C f w4 (by omega) HV.out HF.out)
    clear hf ho hb H4 hx z1 ha ha2 ha3 hs2a hs2b HB3
    go_wp2_with fail
    with_reducible refine H5.out.mono ?_
    rintro e w5 ⟨G2, C2, rfl, ho, hb⟩
    have HR := Lib.hid (resid_all HF.out)
    generalize resid f = r at *
    have HV5 := Lib.hid (row_view ho (in64 (by omega) HR.out))
    have HB5 := Lib.hid (HB4.out.trans (hb.mono HB4.out.size))
    have H6 := size.bestI_calls (some ⟨G2, 0, none⟩) k C2 r w5 (by omega) HV5.out HR.out
    have hbest := best_le (fun q => size r q k) 12
    generalize hBB : best (fun q => size r q k) 12 = BB at *
    obtain ⟨K, Z⟩ := BB
    simp only at H6 hbest
    obtain ⟨hK, hZ, hZ1, hZ2⟩ := hbest
    have H6' := Lib.hid H6
    have hZu : Z ≤ 52 * k := by rw [hZ]; exact size_le r K hK k
    have HZ := Lib.hid (show Z = size r K k from hZ)
    have HZ1 := Lib.hid (show ∀ p, p ≤ 12 → Z ≤ size r p k from hZ1)
    have HZ2 := Lib.hid (show ∀ p, p < K → Z < size r p k from hZ2)
    clear hBB H6 hZ hZ1 hZ2 ho hb H5 HF HV HB4
    have hK0 : ¬ (12 : Int) < (K : Int) := by omega
    go_wp2_with fail
    with_reducible refine H6'.out.mono ?_
    rintro e w6 ⟨rfl, rfl⟩
    clear H6'
    go_wp2
    go_loopw [17] (fun p w' => ∃ j : Nat, j ≤ 13 ∧ p = .int .i64 (j : Int) ∧ Hid (Below w5.heap.size w5 w')) (fun p _ => 13 - (intOf p).toNat)
    case atStart => exact ⟨0, by omega, rfl, Lib.hid (Below.refl _ _)⟩
    case round =>
      obtain ⟨p, hp, rfl, HB⟩ := hrel
      by_cases hlt : p ≤ 12
      · have hpi : (p : Int) ≤ 12 := by omega
        go_wp2
        go_loopw [18, 19] (fun s i w' => ∃ j z : Nat, j ≤ k ∧ z ≤ 52 * j ∧ i = .int .i64 (j : Int) ∧ s = .int .i64 (z : Int) ∧ Hid (z = size r p j) ∧ Hid (Below w5.heap.size w5 w')) (fun _ i _ => k - (intOf i).toNat)
        case atStart => exact ⟨0, 0, Nat.zero_le _, Nat.le_refl _, rfl, rfl, Lib.hid rfl, HB⟩
        case round =>
          obtain ⟨j, z, hj, hz, rfl, rfl, HS, HB⟩ := hrel
          by_cases hlt2 : j < k
          · obtain ⟨b, o, e, hb, hc, -⟩ := (HV5.out.kept HB.out) j hlt2
            cases e
            rw [Nat.zero_add] at hc
            have HC := Lib.hid (wRiceBits.impl_yes (r j) p (HR.out j hlt2) hlt wr)
            have HS2 := Lib.hid (show size r p (j + 1) = size r p j + (rice (r j) p).length from rfl)
            have hl := rice_le (r j) p hlt
            generalize rice (r j) p = x at *
            generalize r j = y at *
            go_wp2_with fail
            with_reducible refine HC.out.mono ?_
            rintro e w7 ⟨rfl, hb7⟩
            have HB7 := Lib.hid (HB.out.trans (hb7.mono HB.out.size))
            clear hb7 HB hc hb HC
            go_wp2
            go_roundw
            case rel => exact ⟨j + 1, z + x.length, by omega, by omega, by go_num, by go_num, Lib.hid (by rw [HS2.out, HS.out]), HB7⟩
            case measure => simp [intOf]; omega
          · obtain rfl : j = k := by omega
            have hzZ : ¬ (z : Int) < (Z : Int) := by have := HZ1.out p hlt; have := HS.out; omega
            rcases Nat.lt_trichotomy p K with h | h | h
            · have h1 : (p : Int) < (K : Int) := by omega
              have h2 : ((z : Int) == (Z : Int)) = false := by
                have := HZ2.out p h; have := HS.out; simp; omega
              have h3 : ((p : Int) == (K : Int)) = false := by simp; omega
              clear hlt2 h
              go_wp2
              go_roundw
              case rel => exact ⟨p + 1, by omega, by go_num, HB⟩
              case measure => simp [intOf]; omega
            · subst h
              have h0 : z = Z := by have := HZ.out; have := HS.out; omega
              subst h0
              clear hlt2 hzZ
              go_wp2
              go_roundw
              case rel => exact ⟨p + 1, by omega, by go_num, HB⟩
              case measure => simp [intOf]; omega
            · have h1 : ¬ (p : Int) < (K : Int) := by omega
              have h3 : ((p : Int) == (K : Int)) = false := by simp; omega
              clear hlt2 h
              go_wp2
              go_roundw
              case rel => exact ⟨p + 1, by omega, by go_num, HB⟩
              case measure => simp [intOf]; omega
      · have hpi : ¬ (p : Int) ≤ 12 := by omega
        go_wp2
        go_ret
        exact ⟨rfl, HB5.out.trans (HB.out.mono HB5.out.size)⟩
end Go.Proofs.YtjhndncmeedffaaDoor.fnBits
