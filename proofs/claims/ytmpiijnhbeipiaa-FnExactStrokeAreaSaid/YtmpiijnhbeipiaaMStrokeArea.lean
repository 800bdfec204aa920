/-
  Proved: both functions return the same area of a stroke.
  Conditions: none.
-/
import Derived.Test.YtmpiijnhbeipiaaLenI
namespace Go.Proofs.Ytmpiijnhbeipiaa.wStrokeArea
open Go.ChangeShapes Go.WideShapes Go.ChangeAt Go.RowKit Go.Joins
open Go.Proofs.Ytmpiijnhbeipiaa.core Go.Proofs.Ytmpiijnhbeipiaa.geoM Go.Proofs.Ytmpiijnhbeipiaa.stk Go.Proofs.Ytmpiijnhbeipiaa.seg Go.Proofs.Ytmpiijnhbeipiaa.side Go.Proofs.Ytmpiijnhbeipiaa.all Go.Proofs.Ytmpiijnhbeipiaa.lenS Go.Proofs.Ytmpiijnhbeipiaa.segs Go.Proofs.Ytmpiijnhbeipiaa.lenI
set_option linter.unusedVariables false
set_option linter.unusedSimpArgs false
theorem ret2 {a b z : Int} (h : a = b) : Ending.returned (.tuple #[.int .i64 a, .int .i64 z]) = .returned (.tuple #[.int .i64 b, .int .i64 z]) := by rw [h]
def xx (a b : P3) : Int := a.1 * b.2.1 - a.2.1 * b.1
theorem pos_small {x y : Int} (h1 : 0 ≤ x) (h2 : x ≤ 4095) (h3 : 0 ≤ y) (h4 : y ≤ 4095) : 0 ≤ x * y ∧ x * y ≤ 16769025 :=
  ⟨Int.mul_nonneg h1 h3, (mul_small (by omega) h2 (by omega) h4).2⟩
theorem xx_le {a b : P3} (ha : Rg a) (hb : Rg b) : -16769025 ≤ xx a b ∧ xx a b ≤ 16769025 := by
  obtain ⟨a1, a2, a3, a4⟩ := ha
  obtain ⟨b1, b2, b3, b4⟩ := hb
  have h1 := pos_small a1 a2 b3 b4
  have h2 := pos_small a3 a4 b1 b2
  unfold xx
  omega
/-- Which point is before the next one, along the stroke that is closed. -/
def pv' (n : Nat) : Nat → Nat
  | 0 => n - 1
  | k + 1 => k
def arS (pts : Nat → P3) (n : Nat) : Nat → Int
  | 0 => 0
  | k + 1 => arS pts n k + xx (pts k) (pts ((k + 1) % n))
def arI (pts : Nat → P3) (n : Nat) : Nat → Int
  | 0 => 0
  | k + 1 => arI pts n k + xx (pts (pv' n k)) (pts k)
def arT (pts : Nat → P3) : Nat → Int
  | 0 => 0
  | k + 1 => arT pts k + xx (pts k) (pts (k + 1))
theorem arS_T (pts : Nat → P3) (n : Nat) : ∀ k, k + 1 ≤ n → arS pts n k = arT pts k
  | 0, _ => rfl
  | k + 1, h => by rw [arS, arT, arS_T pts n k (by omega), Nat.mod_eq_of_lt (by omega)]
theorem arI_T (pts : Nat → P3) (n : Nat) : ∀ k, arI pts n (k + 1) = xx (pts (n - 1)) (pts 0) + arT pts k
  | 0 => by simp [arI, arT, pv']
  | k + 1 => by rw [arI, arI_T pts n k, arT, pv']; omega
theorem area_eq (pts : Nat → P3) (n : Nat) (h : 1 ≤ n) : arS pts n n = arI pts n n := by
  obtain ⟨m, rfl⟩ : ∃ m, n = m + 1 := ⟨n - 1, by omega⟩
  rw [arI_T, arS, arS_T pts (m + 1) m (by omega), Nat.mod_self]
  show arT pts m + xx (pts m) (pts 0) = xx (pts m) (pts 0) + arT pts m
  omega
theorem arS_le {pts : Nat → P3} {n : Nat} (hn : 0 < n) (hr : ∀ i, i < n → Rg (pts i)) : ∀ k, k ≤ n → -16769025 * (k : Int) ≤ arS pts n k ∧ arS pts n k ≤ 16769025 * (k : Int)
  | 0, _ => by simp [arS]
  | k + 1, h => by
    have h1 := arS_le hn hr k (by omega)
    have h2 := xx_le (hr k (by omega)) (hr ((k + 1) % n) (Nat.mod_lt _ hn))
    rw [arS]
    omega
theorem pv_lt {n k : Nat} (hn : 0 < n) (h : k ≤ n) : pv' n k < n := by
  cases k with
  | zero => simp only [pv']; omega
  | succ k => simp only [pv']; omega
theorem arI_le {pts : Nat → P3} {n : Nat} (hn : 0 < n) (hr : ∀ i, i < n → Rg (pts i)) : ∀ k, k ≤ n → -16769025 * (k : Int) ≤ arI pts n k ∧ arI pts n k ≤ 16769025 * (k : Int)
  | 0, _ => by simp [arI]
  | k + 1, h => by
    have h1 := arI_le hn hr k (by omega)
    have h2 := xx_le (hr (pv' n k) (pv_lt hn (by omega))) (hr k (by omega))
    rw [arI]
    omega

set_option maxRecDepth 100000 in
set_option maxHeartbeats 2000000 in
theorem specArea (A : Option Addr) (n c : Nat) (pts : Nat → P3) (w : World) (h1 : 1 ≤ n) (h60 : n ≤ 60) (hr : ∀ i, i < n → Rg (pts i)) (hp : PtsAt w A n pts) :
    Calls Try.prog 62 #[.slice A n c] w fun e w' => e = .returned (.int .i64 (arS pts n n)) ∧ Below w.heap.size w w' := by
  have HP := Lib.hid hp
  have HR := Lib.hid hr
  have HLE := Lib.hid (arS_le (by omega) hr)
  clear hp hr
  go_enter Try.func62, Try.ntmps62
  go_wp2
  go_loopw [3, 4] (fun s i w' => ∃ k : Nat, k ≤ n ∧ i = .int .i64 (k : Int) ∧ s = .int .i64 (arS pts n k) ∧ Hid (Below w.heap.size w w')) (fun _ i _ => n - (intOf i).toNat)
  case atStart => exact ⟨0, Nat.zero_le _, rfl, rfl, Lib.hid (Below.refl _ _)⟩
  case round =>
    obtain ⟨k, hk, rfl, rfl, HB⟩ := hrel
    by_cases hlt : k < n
    · have HPK := Lib.hid (HP.out.kept HB.out)
      have hsum := HLE.out k (by omega)
      have HSU := Lib.hid (show arS pts n (k + 1) = arS pts n k + xx (pts k) (pts ((k + 1) % n)) from rfl)
      obtain ⟨j, hj⟩ : ∃ j, (k + 1) % n = j := ⟨_, rfl⟩
      have hjn : j < n := by rw [← hj]; exact Nat.mod_lt _ (by omega)
      have hji : ((k : Int) + 1) % (n : Int) = (j : Int) := by rw [← hj]; simp
      have hjt : ((k : Int) + 1).tmod (n : Int) = (j : Int) := by rw [Int.tmod_eq_emod_of_nonneg (by omega)]; exact hji
      rw [hj] at HSU
      obtain ⟨g, o', rfl, hg, p0, p1, p2⟩ := HPK.out k hlt
      obtain ⟨g2, o2, e2, -, q0, q1, q2⟩ := HPK.out j hjn
      injection e2 with e2
      injection e2 with e2 e3
      subst e2 e3
      obtain ⟨a1, a2, a3, a4⟩ := HR.out k hlt
      obtain ⟨b1, b2, b3, b4⟩ := HR.out j hjn
      unfold xx at HSU
      generalize arS pts n k = S at *
      obtain ⟨p, hpk⟩ : ∃ p, pts k = p := ⟨_, rfl⟩
      obtain ⟨q, hqk⟩ : ∃ q, pts j = q := ⟨_, rfl⟩
      rw [hpk] at p0 p1 p2 a1 a2 a3 a4 HSU
      rw [hqk] at q0 q1 q2 b1 b2 b3 b4 HSU
      have u1 := pos_small a1 a2 b3 b4
      have u2 := pos_small a3 a4 b1 b2
      obtain ⟨u, hu⟩ : ∃ u, p.1 * q.2.1 = u := ⟨_, rfl⟩
      obtain ⟨v, hv⟩ : ∃ v, p.2.1 * q.1 = v := ⟨_, rfl⟩
      rw [hu] at u1
      rw [hv] at u2
      rw [hu, hv] at HSU
      clear hpk hqk a1 a2 a3 a4 b1 b2 b3 b4 HPK hj
      have hnz : ¬ (n : Int) = 0 := by omega
      have hnz2 : ((n : Int) == 0) = false := by simp; omega
      have hjI : (j : Int) < (n : Int) := by omega
      go_wp2
      clear p0 p1 p2 q0 q1 q2 hji hjt hu hv
      go_roundw
      case rel => exact ⟨k + 1, by omega, by go_num, by rw [HSU.out], Lib.hid (HB.out.trans ((below_alloc2 wr _ _).mono HB.out.size))⟩
      case measure => simp [intOf]; omega
    · obtain rfl : n = k := by omega
      go_wp2
      go_ret
      exact ⟨rfl, HB.out⟩
/-- What a round of the program's loop finds: the point before the next one. -/
structure InvP (w : World) (p : P3) (w' : World) : Prop where
  below : Below w.heap.size w w'
  blk : w'.heap[w.heap.size]? = some (.cells #[.int .i64 p.1, .int .i64 p.2.1, .int .i64 p.2.2] 28 (0, 0))
theorem InvP.lt {w : World} {p : P3} {w' : World} (h : InvP w p w') : w.heap.size < w'.heap.size := (Array.getElem?_eq_some_iff.1 h.blk).1
theorem InvP.step {w : World} {p : P3} {wr : World} (h : InvP w p wr) (q : P3) (o : Obj) : InvP w q ((((wr.setCell ⟨w.heap.size, 0, none⟩ (.int .i64 q.1)).setCell ⟨w.heap.size, 1, none⟩ (.int .i64 q.2.1)).setCell ⟨w.heap.size, 2, none⟩ (.int .i64 q.2.2)).alloc o) := by
  have hl := h.lt
  obtain ⟨hb, h⟩ := h
  have s1 := block_setCell (i := 0) h (.int .i64 q.1)
  have s2 := block_setCell (i := 1) s1 (.int .i64 q.2.1)
  have s3 := block_setCell (i := 2) s2 (.int .i64 q.2.2)
  refine ⟨(((hb.setCell (Nat.le_refl _) _).setCell (Nat.le_refl _) _).setCell (Nat.le_refl _) _).alloc (by simp [World.setCell]; omega) _, ?_⟩
  rw [Below.heap_alloc _ _ _ (by simp [World.setCell]; omega), s3]
  rfl
set_option maxRecDepth 100000 in
set_option maxHeartbeats 2000000 in
theorem spec_no {c : Nat} (A : Option Addr) (n : Nat) (pts : Nat → P3) (w : World) (hcap : n ≤ 1048576) (hp : PtsAt w A n pts) (hv : vS n pts = false) :
    Calls Try.prog 30 #[.agg #[.slice A n c]] w fun e w' => e = .returned (.tuple #[.int .i64 0, .int .i64 1]) ∧ Below w.heap.size w w' := by
  have B0 := Lib.hid (below_alloc1 w (.cells #[.slice A n c] 38))
  have HS := Lib.hid (l02Stroke_calls (c := c) (o := 0) A w.heap.size n pts (w.alloc (.cells #[.slice A n c] 38)) hcap (by simp) (by simp) (hp.kept B0.out))
  rw [hv] at HS
  clear hp hv
  go_enter Try.func30, Try.ntmps30
  go_wp2_with fail
  refine HS.out.mono ?_
  rintro e w1 ⟨rfl, hb1⟩
  have B1 := Lib.hid (B0.out.trans (hb1.mono B0.out.size))
  clear hb1 HS
  go_wp2
  go_ret2
  exact ⟨rfl, B1.out⟩
set_option maxRecDepth 100000 in
set_option maxHeartbeats 2000000 in
theorem impl_no {c : Nat} (A : Option Addr) (n : Nat) (pts : Nat → P3) (w : World) (hcap : n ≤ 1048576) (hp : PtsAt w A n pts) (hv : vS n pts = false) :
    Calls Try.prog 31 #[.agg #[.slice A n c]] w fun e w' => e = .returned (.tuple #[.int .i64 0, .int .i64 1]) ∧ Below w.heap.size w w' := by
  have B0 := Lib.hid (below_alloc1 w (.cells #[.slice A n c] 38))
  have HS := Lib.hid (implValid_calls (c := c) A n pts (w.alloc (.cells #[.slice A n c] 38)) hcap (hp.kept B0.out))
  rw [hv] at HS
  clear hp hv
  go_enter Try.func31, Try.ntmps31
  go_wp2_with fail
  refine HS.out.mono ?_
  rintro e w1 ⟨rfl, hb1⟩
  have B1 := Lib.hid (B0.out.trans (hb1.mono B0.out.size))
  clear hb1 HS
  go_wp2
  go_ret2
  exact ⟨rfl, B1.out⟩
set_option maxRecDepth 100000 in
set_option maxHeartbeats 2000000 in
theorem spec_yes {c : Nat} (A : Option Addr) (n : Nat) (pts : Nat → P3) (w : World) (hcap : n ≤ 1048576) (hp : PtsAt w A n pts) (hv : vS n pts = true) :
    Calls Try.prog 30 #[.agg #[.slice A n c]] w fun e w' => e = .returned (.tuple #[.int .i64 (arI pts n n), .int .i64 0]) ∧ Below w.heap.size w w' := by
  obtain ⟨h1, h60, -⟩ := vS_of hv
  have hr := vS_rg hv
  have B0 := Lib.hid (below_alloc1 w (.cells #[.slice A n c] 38))
  have HS := Lib.hid (l02Stroke_calls (c := c) (o := 0) A w.heap.size n pts (w.alloc (.cells #[.slice A n c] 38)) hcap (by simp) (by simp) (hp.kept B0.out))
  rw [hv] at HS
  have HP := Lib.hid (hp.kept B0.out)
  have HR := Lib.hid hr
  clear hp hv hr
  go_enter Try.func30, Try.ntmps30
  go_wp2_with fail
  refine HS.out.mono ?_
  rintro e w1 ⟨rfl, hb1⟩
  have c0 := (hb1.cell (p := ⟨w.heap.size, 0, none⟩) (by simp)).trans (show _ = some (.slice A n c) by simp)
  have z1 : w.heap.size < w1.heap.size := by have := hb1.size; simp at this; omega
  have B1 := Lib.hid (B0.out.trans (hb1.mono B0.out.size))
  have HP1 := Lib.hid (HP.out.kept hb1)
  clear hb1 HS HP
  go_wp2_with fail
  refine (specArea A n c pts w1 h1 h60 HR.out HP1.out).mono ?_
  rintro e w2 ⟨rfl, hb2⟩
  rw [area_eq pts n h1]
  have B2 := Lib.hid (B1.out.trans (hb2.mono B1.out.size))
  clear hb2 c0
  go_wp2
  go_ret2
  exact ⟨rfl, B2.out⟩
set_option maxRecDepth 100000 in
set_option maxHeartbeats 2000000 in
theorem impl_yes {c : Nat} (A : Option Addr) (n : Nat) (pts : Nat → P3) (w : World) (hcap : n ≤ 1048576) (hp : PtsAt w A n pts) (hv : vS n pts = true) :
    Calls Try.prog 31 #[.agg #[.slice A n c]] w fun e w' => e = .returned (.tuple #[.int .i64 (arI pts n n), .int .i64 0]) ∧ Below w.heap.size w w' := by
  obtain ⟨h1, h60, -⟩ := vS_of hv
  have hr := vS_rg hv
  have B0 := Lib.hid (below_alloc1 w (.cells #[.slice A n c] 38))
  have HS := Lib.hid (implValid_calls (c := c) A n pts (w.alloc (.cells #[.slice A n c] 38)) hcap (hp.kept B0.out))
  rw [hv] at HS
  have HP := Lib.hid (hp.kept B0.out)
  have HR := Lib.hid hr
  clear hp hv hr
  go_enter Try.func31, Try.ntmps31
  go_wp2_with fail
  refine HS.out.mono ?_
  rintro e w1 ⟨rfl, hb1⟩
  have c0 := (hb1.cell (p := ⟨w.heap.size, 0, none⟩) (by simp)).trans (show _ = some (.slice A n c) by simp)
  have z1 : w.heap.size < w1.heap.size := by have := hb1.size; simp at this; omega
  have B1 := Lib.hid (B0.out.trans (hb1.mono B0.out.size))
  have HP1 := Lib.hid (HP.out.kept hb1)
  clear hb1 HS HP
  have HLE := Lib.hid (arI_le (pts := pts) (n := n) (by omega) HR.out)
  obtain ⟨g, o', rfl, hg, p0, p1, p2⟩ := HP1.out (n - 1) (by omega)
  obtain ⟨m, rfl⟩ : ∃ m, n = m + 1 := ⟨n - 1, by omega⟩
  rw [show m + 1 - 1 = m from rfl] at p0 p1 p2
  have hmlt : m < m + 1 := by omega
  have hmi : (m : Int) < (m : Int) + 1 := by omega
  go_wp2
  clear p0 p1 p2
  go_loopw [4, 22] (fun s i w' => ∃ k : Nat, k ≤ m + 1 ∧ i = .int .i64 (k : Int) ∧ s = .int .i64 (arI pts (m + 1) k) ∧ Hid (InvP w1 (pts (pv' (m + 1) k)) w')) (fun _ i _ => m + 1 - (intOf i).toNat)
  case atStart => exact ⟨0, Nat.zero_le _, rfl, rfl, Lib.hid ⟨below_alloc1 _ _, heap_alloc_new w1 _⟩⟩
  case round =>
    obtain ⟨k, hk, rfl, rfl, HI⟩ := hrel
    by_cases hlt : k < m + 1
    · have HPK := Lib.hid (HP1.out.kept HI.out.below)
      have hsum := HLE.out k (by omega)
      have HSU := Lib.hid (show arI pts (m + 1) (k + 1) = arI pts (m + 1) k + xx (pts (pv' (m + 1) k)) (pts k) from rfl)
      obtain ⟨g2, o2, e2, hg2, q0, q1, q2⟩ := HPK.out k hlt
      injection e2 with e2
      injection e2 with e2 e3
      subst e2 e3
      obtain ⟨a1, a2, a3, a4⟩ := HR.out (pv' (m + 1) k) (pv_lt (by omega) (by omega))
      obtain ⟨b1, b2, b3, b4⟩ := HR.out k hlt
      unfold xx at HSU
      generalize arI pts (m + 1) k = S at *
      obtain ⟨p, hpk⟩ : ∃ p, pts (pv' (m + 1) k) = p := ⟨_, rfl⟩
      obtain ⟨q, hqk⟩ : ∃ q, pts k = q := ⟨_, rfl⟩
      rw [hpk] at a1 a2 a3 a4 HSU HI
      rw [hqk] at q0 q1 q2 b1 b2 b3 b4 HSU
      have u1 := pos_small a1 a2 b3 b4
      have u2 := pos_small a3 a4 b1 b2
      obtain ⟨u, hu⟩ : ∃ u, p.1 * q.2.1 = u := ⟨_, rfl⟩
      obtain ⟨v, hv⟩ : ∃ v, p.2.1 * q.1 = v := ⟨_, rfl⟩
      rw [hu] at u1
      rw [hv] at u2
      rw [hu, hv] at HSU
      have HQK := Lib.hid (show pts (pv' (m + 1) (k + 1)) = q from hqk)
      have k0 : wr.cell? ⟨w1.heap.size, 0, none⟩ = some (.int .i64 p.1) := by rw [cell_of_block HI.out.blk]; rfl
      have k1 : wr.cell? ⟨w1.heap.size, 1, none⟩ = some (.int .i64 p.2.1) := by rw [cell_of_block HI.out.blk]; rfl
      have k2 : wr.cell? ⟨w1.heap.size, 2, none⟩ = some (.int .i64 p.2.2) := by rw [cell_of_block HI.out.blk]; rfl
      have kf := unfrozen_of_block HI.out.blk
      have hz := HI.out.lt
      have hli : (k : Int) < (m : Int) + 1 := by omega
      clear hpk hqk a1 a2 a3 a4 b1 b2 b3 b4 HPK
      go_wp2
      clear q0 q1 q2 k0 k1 k2 kf hu hv
      go_roundw
      case rel => exact ⟨k + 1, by omega, by go_num, by rw [HSU.out], Lib.hid (by rw [HQK.out]; exact HI.out.step q _)⟩
      case measure => simp [intOf]; omega
    · obtain rfl : k = m + 1 := by omega
      go_wp2
      go_ret2
      exact ⟨rfl, B1.out.trans (HI.out.below.mono B1.out.size)⟩
theorem meat (vs0 : Nat → Value) (g0 : Nat → Dat) (ht0 : tyrStroke g0) :
    costRec 1 g0 ≤ 1048576 → ∃ (r0 : Int) (r1 : Int), (∀ (W : World) (us0 : Nat → Value), ReadsRec W 1 us0 g0 → Calls Try.prog 30 #[.agg #[us0 0]] W fun e W' => e = .returned (.tuple #[.int .i64 r0, .int .i64 r1]) ∧ Below W.heap.size W W') ∧ (∀ (W : World) (us0 : Nat → Value), ReadsRec W 1 us0 g0 → Calls Try.prog 31 #[.agg #[us0 0]] W fun e W' => e = .returned (.tuple #[.int .i64 r0, .int .i64 r1]) ∧ Below W.heap.size W W') := by
  intro hq
  cases hv : vS (strN g0) (strP g0) with
  | true => exact ⟨_, _, fun W us0 h0 => by
      obtain ⟨A, c, e, hn, hp⟩ := reads_str h0 ht0 hq
      rw [e]; exact spec_yes A _ _ W hn hp hv, fun W us0 h0 => by
      obtain ⟨A, c, e, hn, hp⟩ := reads_str h0 ht0 hq
      rw [e]; exact impl_yes A _ _ W hn hp hv⟩
  | false => exact ⟨_, _, fun W us0 h0 => by
      obtain ⟨A, c, e, hn, hp⟩ := reads_str h0 ht0 hq
      rw [e]; exact spec_no A _ _ W hn hp hv, fun W us0 h0 => by
      obtain ⟨A, c, e, hn, hp⟩ := reads_str h0 ht0 hq
      rw [e]; exact impl_no A _ _ W hn hp hv⟩
end Go.Proofs.Ytmpiijnhbeipiaa.wStrokeArea
