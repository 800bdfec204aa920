/-
  Proved: the points of all strokes one behind the other: what the program's list of them is, and how many there are.
  Conditions: the ink is valid.
-/
import Derived.Test.YtedboaeadkdhfaaInk
import Derived.Test.YtedboaeadkdhfaaLenI
import Derived.Test.YtedboaeadkdhfaaRowN
import Derived.Test.YtedboaeadkdhfaaBoxed
namespace Go.Proofs.Ytedboaeadkdhfaa.flat
open Go.ChangeShapes Go.WideShapes Go.ChangeAt Go.RowKit Go.Joins
open Go.Proofs.Ytedboaeadkdhfaa.core Go.Proofs.Ytedboaeadkdhfaa.stk Go.Proofs.Ytedboaeadkdhfaa.ink Go.Proofs.Ytedboaeadkdhfaa.seg Go.Proofs.Ytedboaeadkdhfaa.lenI Go.Proofs.Ytedboaeadkdhfaa.rown Go.Proofs.Ytedboaeadkdhfaa.boxed
set_option linter.unusedVariables false
set_option linter.unusedSimpArgs false
/-- The stroke and the place in it of the m-th point. -/
def loc (ns : Nat → Nat) : Nat → Nat → Nat × Nat
  | 0, m => (0, m)
  | n + 1, m => if m < sumTo ns n then loc ns n m else (n, m - sumTo ns n)
theorem loc_at (ns : Nat → Nat) : ∀ n i k, i < n → k < ns i → loc ns n (sumTo ns i + k) = (i, k)
  | 0, i, k, h, _ => absurd h (by omega)
  | n + 1, i, k, h, hk => by
    rw [loc]
    rcases Nat.lt_or_ge i n with h1 | h1
    · have := sumTo_lt ns h1
      rw [if_pos (by omega)]
      exact loc_at ns n i k h1 hk
    · obtain rfl : i = n := by omega
      rw [if_neg (by omega), Nat.add_sub_cancel_left]
theorem loc_of (ns : Nat → Nat) : ∀ n m, m < sumTo ns n → (loc ns n m).1 < n ∧ (loc ns n m).2 < ns (loc ns n m).1 ∧ sumTo ns (loc ns n m).1 + (loc ns n m).2 = m
  | 0, m, h => absurd h (by simp [sumTo])
  | n + 1, m, h => by
    have e : sumTo ns (n + 1) = sumTo ns n + ns n := rfl
    rw [loc]
    by_cases h1 : m < sumTo ns n
    · rw [if_pos h1]
      have := loc_of ns n m h1
      omega
    · rw [if_neg h1]
      simp only
      omega
/-- The m-th point. -/
def fp (n : Nat) (ns : Nat → Nat) (ps : Nat → Nat → P3) (m : Nat) : P3 := ps (loc ns n m).1 (loc ns n m).2
theorem fp_at {n : Nat} {ns : Nat → Nat} {ps : Nat → Nat → P3} {i k : Nat} (hi : i < n) (hk : k < ns i) : fp n ns ps (sumTo ns i + k) = ps i k := by
  unfold fp; rw [loc_at ns n i k hi hk]
theorem sum_le {ns : Nat → Nat} : ∀ {n : Nat}, (∀ i, i < n → ns i ≤ 60) → sumTo ns n ≤ n * 60
  | 0, _ => Nat.le_refl _
  | n + 1, h => by
    have := sum_le (n := n) fun i hi => h i (by omega)
    have h2 := h n (by omega)
    simp only [sumTo]
    omega
/-- The strokes lie in the ink's list, each one in memory of its own. -/
def InkAd (w : World) (A : Option Addr) (n : Nat) (ns : Nat → Nat) (ps : Nat → Nat → P3) (ad : Nat → Nat × Nat) : Prop :=
  ∀ i, i < n → ∃ G o : Nat, A = some ⟨G, o, none⟩ ∧ G < w.heap.size ∧ (∃ c : Nat, w.cell? ⟨G, o + i, none⟩ = some (.slice (some ⟨(ad i).1, (ad i).2, none⟩) (ns i) c)) ∧ (ad i).1 < w.heap.size ∧ PtsAt w (some ⟨(ad i).1, (ad i).2, none⟩) (ns i) (ps i)
theorem InkAt.ad {w : World} {A : Option Addr} {n : Nat} {ns : Nat → Nat} {ps : Nat → Nat → P3} (h : InkAt w A n ns ps) (h1 : ∀ i, i < n → 1 ≤ ns i) : ∃ ad, InkAd w A n ns ps ad := by
  have key : ∀ i, ∃ a : Nat × Nat, i < n → ∃ G o : Nat, A = some ⟨G, o, none⟩ ∧ G < w.heap.size ∧ (∃ c : Nat, w.cell? ⟨G, o + i, none⟩ = some (.slice (some ⟨a.1, a.2, none⟩) (ns i) c)) ∧ a.1 < w.heap.size ∧ PtsAt w (some ⟨a.1, a.2, none⟩) (ns i) (ps i) := fun i => by
    by_cases hi : i < n
    · obtain ⟨G, o, e, hg, B, c, p, hp⟩ := h i hi
      obtain ⟨b, o', rfl, hb, -⟩ := hp 0 (h1 i hi)
      exact ⟨(b, o'), fun _ => ⟨G, o, e, hg, ⟨c, p⟩, hb, hp⟩⟩
    · exact ⟨(0, 0), fun h => absurd h hi⟩
  exact ⟨fun i => Classical.choose (key i), fun i hi => Classical.choose_spec (key i) hi⟩
theorem InkAd.kept {w w' : World} {A : Option Addr} {n : Nat} {ns : Nat → Nat} {ps : Nat → Nat → P3} {ad : Nat → Nat × Nat} (h : InkAd w A n ns ps ad) (hb : Below w.heap.size w w') : InkAd w' A n ns ps ad := fun i hi => by
  obtain ⟨G, o, e, h1, ⟨c, h2⟩, h3, h4⟩ := h i hi
  exact ⟨G, o, e, Nat.lt_of_lt_of_le h1 hb.size, ⟨c, (hb.cell (p := ⟨G, o + i, none⟩) h1).trans h2⟩, Nat.lt_of_lt_of_le h3 hb.size, h4.kept hb⟩
/-- The pointer to the m-th point. -/
def ptr (n : Nat) (ns : Nat → Nat) (ad : Nat → Nat × Nat) (m : Nat) : Value := .pointer (some ⟨(ad (loc ns n m).1).1, (ad (loc ns n m).1).2 + (loc ns n m).2 * 3, none⟩)
def prow (n : Nat) (ns : Nat → Nat) (ad : Nat → Nat × Nat) (m : Nat) : List Value := [ptr n ns ad m]
theorem prow_len (n : Nat) (ns : Nat → Nat) (ad : Nat → Nat × Nat) : ∀ m, (prow n ns ad m).length = 1 := fun _ => rfl
theorem ptr_at {n : Nat} {ns : Nat → Nat} {ad : Nat → Nat × Nat} {i k : Nat} (hi : i < n) (hk : k < ns i) : ptr n ns ad (sumTo ns i + k) = .pointer (some ⟨(ad i).1, (ad i).2 + k * 3, none⟩) := by
  unfold ptr; rw [loc_at ns n i k hi hk]
theorem infoPtr : (Try.prog.info? 85).map (fun i => (i.zero, i.size, i.bytes)) = some (some (.pointer none), 1, 8) := by kernel_rfl
theorem one_new {w : World} {a : Value} {E H : Nat} (h : w.heap.size = H) : ∀ j u, [a][j]? = some u → (w.alloc (.cells #[a] E)).cell? ((⟨H, 0, none⟩ : Addr).add j) = some u := by
  subst h
  exact new_cells (l := [a])
set_option maxRecDepth 100000 in
set_option maxHeartbeats 4000000 in
theorem points_calls {c : Nat} (A : Option Addr) (n : Nat) (ns : Nat → Nat) (ps : Nat → Nat → P3) (ad : Nat → Nat × Nat) (w : World) (h16 : n ≤ 16) (h60 : ∀ i, i < n → ns i ≤ 60) (hp : InkAd w A n ns ps ad) :
    Calls Try.prog 63 #[.agg #[.slice A n c]] w fun e w' => ∃ B d, e = .returned (.slice B (sumTo ns n) d) ∧ w'.ownsRow w.heap.size 85 1 (.slice B (sumTo ns n) d) (sumTo ns n) (rws (prow n ns ad) (sumTo ns n)) ∧ Below w.heap.size w w' := by
  obtain ⟨i0, hi0, hz0, hz1, hz2⟩ := rown.info_get infoPtr
  have HP := Lib.hid hp
  have H60 := Lib.hid h60
  have HLE := Lib.hid (fun i (hi : i ≤ n) => sum_le (n := i) fun j hj => h60 j (by omega))
  have HPT := Lib.hid (fun i k (hi : i < n) (hk : k < ns i) => ptr_at (ad := ad) hi hk)
  have hE : ∀ m, rws (prow n ns ad) (m + 1) = rws (prow n ns ad) m ++ [ptr n ns ad m] := fun m => rfl
  have HE := Lib.hid hE
  clear hp h60 hE
  go_enter Try.func63, Try.ntmps63
  go_wp2
  go_loopw [3, 10] (fun s i w' => ∃ (k d : Nat) (B : Option Addr), k ≤ n ∧ i = .int .i64 (k : Int) ∧ s = .slice B (sumTo ns k) d ∧ Hid (w'.ownsRow (w.heap.size + 1) 85 1 (.slice B (sumTo ns k) d) (sumTo ns k) (rws (prow n ns ad) (sumTo ns k))) ∧ Hid (Below (w.heap.size + 1) (w.alloc (.cells #[.slice A n c] 56)) w')) (fun _ i _ => n - (intOf i).toNat)
  case atStart => exact ⟨0, 0, none, Nat.zero_le _, rfl, rfl, Lib.hid (World.ownsRow_nil _ _ _ _), Lib.hid (by simpa using Below.refl _ (w.alloc (.cells #[.slice A n c] 56)))⟩
  case round =>
    obtain ⟨i, d, B, hi, rfl, rfl, HO, HB⟩ := hrel
    have HBW := Lib.hid ((below_alloc1 w (.cells #[.slice A n c] 56)).trans (HB.out.mono (Nat.le_succ _)))
    by_cases hlt : i < n
    · obtain ⟨G, o, rfl, hg, ⟨cc, p0⟩, ha, -⟩ := (HP.out.kept HBW.out) i hlt
      have hzr : w.heap.size + 1 ≤ wr.heap.size := by have := HB.out.size; simpa using this
      obtain ⟨m, hm⟩ : ∃ m, ns i = m := ⟨_, rfl⟩
      have hm60 := H60.out i hlt
      have hSn : sumTo ns (i + 1) = sumTo ns i + m := by rw [← hm]; rfl
      have HSn := Lib.hid hSn
      have HPI := Lib.hid (fun k hk => HPT.out i k hlt hk)
      rw [hm] at p0 hm60 HPI
      obtain ⟨⟨ga, oa⟩, hga⟩ : ∃ a, ad i = a := ⟨_, rfl⟩
      rw [hga] at p0 HPI ha
      simp only at p0 HPI ha
      have hli : (i : Int) < (n : Int) := by omega
      have hSle := HLE.out i hi
      obtain ⟨S, hS⟩ : ∃ S, sumTo ns i = S := ⟨_, rfl⟩
      have hS960 : S ≤ 960 := by omega
      rw [hS] at HO HSn HPI ⊢
      have HOA := Lib.hid (rown.ownsRow_kept HO.out (below_alloc1 wr (.cells #[.slice (some ⟨ga, oa, none⟩) m cc] 77)))
      have HBA := Lib.hid (HB.out.trans ((below_alloc1 wr (.cells #[.slice (some ⟨ga, oa, none⟩) m cc] 77)).mono hzr))
      have BK := Lib.hid (heap_alloc_new wr (.cells #[.slice (some ⟨ga, oa, none⟩) m cc] 77))
      clear hm hSn hga hSle hS hg ha
      go_wp2
      clear p0
      generalize hW : wr.alloc (.cells #[.slice (some ⟨ga, oa, none⟩) m cc] 77) = w2 at *
      have hz2' : wr.heap.size < w2.heap.size := by rw [← hW]; simp
      clear hW HO HB HBW
      generalize wr.heap.size = b5 at *
      go_loopw [3, 17] (fun s i w' => ∃ (k d : Nat) (B : Option Addr), k ≤ m ∧ i = .int .i64 (k : Int) ∧ s = .slice B (S + k) d ∧ Hid (w'.ownsRow (w.heap.size + 1) 85 1 (.slice B (S + k) d) (S + k) (rws (prow n ns ad) (S + k))) ∧ Hid (Below (w.heap.size + 1) (w.alloc (.cells #[.slice (some ⟨G, o, none⟩) n c] 56)) w') ∧ Hid (w'.heap[b5]? = some (.cells #[.slice (some ⟨ga, oa, none⟩) m cc] 77 (0, 0)))) (fun _ i _ => m - (intOf i).toNat)
      case atStart => exact ⟨0, d, B, Nat.zero_le _, rfl, rfl, HOA, HBA, BK⟩
      case round =>
        obtain ⟨k, d2, B2, hk, rfl, rfl, HO3, HB3, HK3⟩ := hrel
        by_cases hlt2 : k < m
        · have r0 : wr.cell? ⟨b5, 0, none⟩ = some (.slice (some ⟨ga, oa, none⟩) m cc) := by rw [cell_of_block HK3.out]; rfl
          have hki : (k : Int) < (m : Int) := by omega
          have hz3 : w.heap.size + 1 ≤ wr.heap.size := by have := HB3.out.size; simpa using this
          have HE3 := Lib.hid (show rws (prow n ns ad) (S + (k + 1)) = rws (prow n ns ad) (S + k) ++ [.pointer (some ⟨ga, oa + k * 3, none⟩)] by rw [show S + (k + 1) = S + k + 1 by omega, HE.out, HPI.out k hlt2])
          have HZ3 := Lib.hid hz3
          have HS3 := Lib.hid hS960
          have HM3 := Lib.hid hm60
          clear hz3 hS960
          go_wp2_with (first
            | (at_builtin
               have z0 := rown.ownsRow_kept HO3.out (below_alloc1 wr (.cells #[.pointer (some ⟨ga, oa + k * 3, none⟩)] 85))
               have z2 : ∀ u ∈ [Value.pointer (some ⟨ga, oa + k * 3, none⟩)], u.oneCell' = true := (by simp [Value.oneCell'])
               have z3 : S + k + 1 ≤ maxLen := (by have := HS3.out; have := HM3.out; simp only [maxLen]; omega)
               have z4 : (S + k + 1) * 8 ≤ 140737488355328 := (by have := HS3.out; have := HM3.out; omega)
               have z5 : w.heap.size + 1 ≤ (wr.alloc (.cells #[.pointer (some ⟨ga, oa + k * 3, none⟩)] 85)).heap.size := (Nat.le_trans HZ3.out (by simp))
               refine wpList_append_lies (wr.alloc (.cells #[.pointer (some ⟨ga, oa + k * 3, none⟩)] 85)) rfl _ _ 83 rfl (w.heap.size + 1) 85 i0 _ 1 8 Try.underlying83 hi0 hz0 hz1 hz2 rfl (by decide) (.slice B2 (S + k) d2) (S + k) _ rfl z0 ⟨wr.heap.size, 0, none⟩ 1 1 [.pointer (some ⟨ga, oa + k * 3, none⟩)] rfl rfl (one_new rfl) z2 (by decide) z3 z4 z5 _ rfl ?_
               intro g3 cap3 w5 hown hgr hat hlt3
               have HO4 := Lib.hid hown
               have HB4 := Lib.hid (HB3.out.trans (rown.under HO3.out HZ3.out hgr))
               have HK4 := Lib.hid (show w5.heap[b5]? = _ from (hgr.block b5 (by have := block_size HK3.out; simp; omega) (fun e => by
                 obtain ⟨_, cur, hc⟩ := rown.ownsRow_block HO3.out e.symm
                 rw [HK3.out] at hc
                 injection hc with hc
                 injection hc with h1 h2 h3
                 exact absurd h2 (by decide))).trans ((Below.heap_alloc _ _ _ (block_size HK3.out)).trans HK3.out))
               clear hown hgr hat z0 z2 z3 z4 z5))
          go_roundw
          case rel => exact ⟨k + 1, cap3, some ⟨g3, 0, none⟩, by omega, by go_num, rfl, Lib.hid (by rw [HE3.out]; exact HO4.out), HB4, HK4⟩
          case measure => simp [intOf]; omega
        · obtain rfl : k = m := by omega
          go_wp2
          go_roundw
          case rel => exact ⟨i + 1, d2, B2, by omega, by go_num, by rw [HSn.out], Lib.hid (by rw [HSn.out]; exact HO3.out), HB3⟩
          case measure => simp [intOf]; omega
    · obtain rfl : i = n := by omega
      go_wp2
      go_ret
      exact ⟨B, d, rfl, row_low HO.out (by omega), HBW.out⟩
end Go.Proofs.Ytedboaeadkdhfaa.flat
